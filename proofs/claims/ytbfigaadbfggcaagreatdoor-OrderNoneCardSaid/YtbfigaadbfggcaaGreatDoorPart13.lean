/- Part 13 of the texts that the proofs of this seat share: SpineCode, SpineBlk, SpineNests, SchemeTell, SchemeCat, SchemeFind, SplitMay, RefLight. -/
import Derived.Test.YtbfigaadbfggcaaGreatDoorPart11
import Derived.Test.YtbfigaadbfggcaaGreatDoorPart5
import Derived.Deep.RegionHeld3
import Derived.Deep.DeepCutAuto
import Derived.BigRegion
import Derived.Test.YtbfigaadbfggcaaGreatDoorPart1
import Derived.Test.YtbfigaadbfggcaaGreatDoorPart3
import Derived.RangeFuncNested
import Derived.RangeFuncBound
import Derived.RangeFuncCalls
import Derived.RangeFuncLeaves
import Derived.Shelf.Abstract
import Derived.Shelf.RegionOpen
import Derived.WalkKit
import Derived.OwnWalkIn
import Derived.TacticsInMore
import Derived.LoopNIn
import Derived.LoopIn
import Derived.Test.YtbfigaadbfggcaaGreatDoorPart4
import Derived.Test.YtbfigaadbfggcaaGreatDoorPart12
import Derived.BigQuiet
import Derived.Test.YtbfigaadbfggcaaGreatDoorPart2
/- What the methods of spine's block answer: is there such a leaf, and at which edge two leaves hang together. -/
namespace Go.Proofs.YtbfigaadbfggcaaGreatDoor
open Go.RowKit
set_option linter.unusedVariables false

theorem blkHas_any (c k : Int) (a1 a2 : Option Addr) (n1 c1 n c2 : Nat) (w : World) (hn : n ≤ 64) :
    Calls Tryz.prog 68 #[.agg #[.int .i64 c, .slice a1 n1 c1, .slice a2 n c2], .int .i64 k] w fun e w' => e = .returned (.bool (decide (0 ≤ k) && decide (k ≤ (n : Int) - 1))) ∧ Below w.heap.size w w' := by
  have H := Lib.hid fun w => in_any k 0 ((n : Int) - 1) w
  go_enter Tryz.func68, Tryz.ntmps68
  go_wp2_with fail
  refine (H.out _).mono ?_
  rintro e w1 ⟨rfl, rfl⟩
  go_wp2
  go_ret
  exact ⟨rfl, up_alloc (Below.refl _ _) _⟩

set_option maxHeartbeats 1000000 in
set_option maxRecDepth 100000 in
theorem blkEdge_core (c X Y lo hi lf : Int) (fx fy u1 u2 u3 : Bool) (g1 g2 m c2 a b j : Nat) (w : World) (hm : m ≤ 64) (hc : 1 ≤ c ∧ c ≤ 64) (ha : a < m) (hb : b < m) (hj : j < m) (hlo : min X Y = lo) (hhi : max X Y = hi) (hjl : lo = (j : Int)) (hh : 0 ≤ hi ∧ hi ≤ 64)
    (x0 : w.cell? ⟨g2, a, none⟩ = some (.int .i64 X)) (y0 : w.cell? ⟨g2, b, none⟩ = some (.int .i64 Y))
    (p0 : w.cell? ⟨g1, j * 3, none⟩ = some (.int .i64 lf)) (p1 : w.cell? ⟨g1, j * 3 + 1, none⟩ = some (.bool fx)) (p2 : w.cell? ⟨g1, j * 3 + 2, none⟩ = some (.bool fy))
    (e1 : (hi == (j : Int) + 1) = u1) (e2 : (hi.tmod c != 0) = u2) (e3 : (hi == (j : Int) + c) = u3)
    (V : Int) (hV : V = if (u1 && u2) = true then (if fx = true then 1 else 2) else if u3 = true then (if fy = true then 3 else 4) else 0) :
    Calls Tryz.prog 56 #[.agg #[.int .i64 c, .slice (some ⟨g1, 0, none⟩) m m, .slice (some ⟨g2, 0, none⟩) m c2], .int .i64 (a : Int), .int .i64 (b : Int)] w fun e w' => e = .returned (.int .i64 V) ∧ Below w.heap.size w w' := by
  subst hjl
  have K1 := fun w => blkHas_any c (a : Int) (some ⟨g1, 0, none⟩) (some ⟨g2, 0, none⟩) m m m c2 w hm
  have K2 := fun w => blkHas_any c (b : Int) (some ⟨g1, 0, none⟩) (some ⟨g2, 0, none⟩) m m m c2 w hm
  rw [decide_eq_true (by omega : (0 : Int) ≤ (a : Int)), decide_eq_true (by omega : (a : Int) ≤ (m : Int) - 1)] at K1
  rw [decide_eq_true (by omega : (0 : Int) ≤ (b : Int)), decide_eq_true (by omega : (b : Int) ≤ (m : Int) - 1)] at K2
  simp only [Bool.and_self] at K1 K2
  have e2' : (hi % c != 0) = u2 := by rw [← Int.tmod_eq_emod_of_nonneg hh.1]; exact e2
  have H1 := Lib.hid K1; have H2 := Lib.hid K2
  have B0 := Lib.hid (up_alloc (Below.refl _ w) (.cells #[.int .i64 c, .slice (some ⟨g1, 0, none⟩) m m, .slice (some ⟨g2, 0, none⟩) m c2] 82))
  have HC := Lib.hid (And.intro x0 (And.intro y0 (And.intro p0 (And.intro p1 p2))))
  clear K1 K2 x0 y0 p0 p1 p2
  have z0 : (0 : Int) ≤ (a : Int) := by omega
  have z1 : (a : Int) < (m : Int) := by omega
  have z2 : (0 : Int) ≤ (b : Int) := by omega
  have z3 : (b : Int) < (m : Int) := by omega
  have z4 : (0 : Int) ≤ (j : Int) := by omega
  have z5 : (j : Int) < (m : Int) := by omega
  have hc0 : c ≠ 0 := by omega
  have HE := Lib.hid (And.intro e1 (And.intro e2 (And.intro e2' e3)))
  clear e1 e2 e2' e3
  go_enter Tryz.func56, Tryz.ntmps56
  go_wp2_with fail
  refine (H1.out _).mono ?_
  rintro e w1 ⟨rfl, hb1⟩
  have A1 := (Bx.new w 82 [.int .i64 c, .slice (some ⟨g1, 0, none⟩) m m, .slice (some ⟨g2, 0, none⟩) m c2]).up hb1
  have B1 := Lib.hid (up_trans B0.out hb1)
  have a0 := A1.cell 0 rfl; have a1 := A1.cell 1 rfl; have a2 := A1.cell 2 rfl
  clear hb1
  go_wp2_with fail
  refine (H2.out _).mono ?_
  rintro e w2 ⟨rfl, hb2⟩
  have A2 := A1.up hb2
  have B2 := Lib.hid (up_trans B1.out hb2)
  clear a0 a1 a2 hb2 A1 B1
  have a0 := A2.cell 0 rfl; have a1 := A2.cell 1 rfl; have a2 := A2.cell 2 rfl
  obtain ⟨x0, y0, p0, p1, p2⟩ := HC.out
  have x0 := bl_cell B2.out x0; have y0 := bl_cell B2.out y0
  have p0 := bl_cell B2.out p0; have p1 := bl_cell B2.out p1; have p2 := bl_cell B2.out p2
  go_wp2_with fail
  refine later_start (w := w2) ?_
  intro v
  have j0 := fun v : Later w2 => v.cell a0
  have j1 := fun v : Later w2 => v.cell a1
  have j2 := fun v : Later w2 => v.cell a2
  have k0 := fun v : Later w2 => v.cell x0
  have k1 := fun v : Later w2 => v.cell y0
  have q0 := fun v : Later w2 => v.cell p0
  have q1 := fun v : Later w2 => v.cell p1
  have q2 := fun v : Later w2 => v.cell p2
  clear a0 a1 a2 x0 y0 p0 p1 p2
  refine wp_region_later (by kernel_rfl) (by kernel_rfl) ?_
  repeat (go_big_quiet_step (fail))
  refine wpQuiet_nil ?_
  rintro _ ⟨v2, rfl⟩
  have a0 := j0 v2; have a1 := j1 v2; have a2 := j2 v2
  have p0 := q0 v2; have p1 := q1 v2; have p2 := q2 v2
  have B3 := Lib.hid (up_trans B2.out v2.up)
  have b0 := ((A2.up v2.up).alloc (.cells #[.int .i64 lf, .bool fx, .bool fy] 96)).cell 0 rfl
  clear j0 j1 j2 k0 k1 q0 q1 q2 B2
  generalize v2.now = w3 at *
  clear v v2
  obtain ⟨e1, e2, e2', e3⟩ := HE.out
  have hfin : ∀ o, Below w.heap.size w (w3.alloc o) := fun o => up_alloc B3.out o
  have HF := Lib.hid hfin
  clear hfin
  cases u1
  · cases u3
    · clear e2
      obtain rfl : V = 0 := hV
      go_wp2
      go_ret
      exact ⟨rfl, HF.out _⟩
    · cases fy
      · obtain rfl : V = 4 := hV
        go_wp2
        go_ret
        exact ⟨rfl, HF.out _⟩
      · obtain rfl : V = 3 := hV
        go_wp2
        go_ret
        exact ⟨rfl, HF.out _⟩
  · cases u2
    · cases u3
      · obtain rfl : V = 0 := hV
        go_wp2
        go_ret
        exact ⟨rfl, HF.out _⟩
      · cases fy
        · obtain rfl : V = 4 := hV
          go_wp2
          go_ret
          exact ⟨rfl, HF.out _⟩
        · obtain rfl : V = 3 := hV
          go_wp2
          go_ret
          exact ⟨rfl, HF.out _⟩
    · cases fx
      · obtain rfl : V = 2 := hV
        go_wp2
        go_ret
        exact ⟨rfl, HF.out _⟩
      · obtain rfl : V = 1 := hV
        go_wp2
        go_ret
        exact ⟨rfl, HF.out _⟩
end Go.Proofs.YtbfigaadbfggcaaGreatDoor
/- What spine's folded answers, at which edge two leaves of a block hang together, and spine.Edge, for every scheme and every two ints. -/
namespace Go.Proofs.YtbfigaadbfggcaaGreatDoor
open Go.RowKit
set_option linter.unusedVariables false

theorem blkEdge_out (c a b : Int) (a1 a2 : Option Addr) (n1 c1 n c2 : Nat) (w : World) (hn : n ≤ 64) (h : ¬ ((0 ≤ a ∧ a < (n : Int)) ∧ 0 ≤ b ∧ b < (n : Int))) :
    Calls Tryz.prog 56 #[.agg #[.int .i64 c, .slice a1 n1 c1, .slice a2 n c2], .int .i64 a, .int .i64 b] w fun e w' => e = .returned (.int .i64 0) ∧ Below w.heap.size w w' := by
  have K1 := fun w => blkHas_any c a a1 a2 n1 c1 n c2 w hn
  have K2 := fun w => blkHas_any c b a1 a2 n1 c1 n c2 w hn
  obtain ⟨u1, hu1⟩ : ∃ u, (decide (0 ≤ a) && decide (a ≤ (n : Int) - 1)) = u := ⟨_, rfl⟩
  obtain ⟨u2, hu2⟩ : ∃ u, (decide (0 ≤ b) && decide (b ≤ (n : Int) - 1)) = u := ⟨_, rfl⟩
  have hu : u1 = false ∨ u2 = false := by
    rw [← hu1, ← hu2]
    simp only [Bool.and_eq_false_iff, decide_eq_false_iff_not]
    omega
  rw [hu1] at K1
  rw [hu2] at K2
  have H1 := Lib.hid K1; have H2 := Lib.hid K2
  have B0 := Lib.hid (up_alloc (Below.refl _ w) (.cells #[.int .i64 c, .slice a1 n1 c1, .slice a2 n c2] 82))
  clear K1 K2 h hu1 hu2
  cases u1
  · clear hu
    go_enter Tryz.func56, Tryz.ntmps56
    go_wp2_with fail
    refine (H1.out _).mono ?_
    rintro e w1 ⟨rfl, hb1⟩
    have B1 := Lib.hid (up_trans B0.out hb1)
    clear hb1
    go_wp2
    go_ret
    exact ⟨rfl, B1.out⟩
  · obtain rfl : u2 = false := by simpa using hu
    clear hu
    go_enter Tryz.func56, Tryz.ntmps56
    go_wp2_with fail
    refine (H1.out _).mono ?_
    rintro e w1 ⟨rfl, hb1⟩
    have A1 := (Bx.new w 82 [.int .i64 c, .slice a1 n1 c1, .slice a2 n c2]).up hb1
    have B1 := Lib.hid (up_trans B0.out hb1)
    have x0 := A1.cell 0 rfl; have x1 := A1.cell 1 rfl; have x2 := A1.cell 2 rfl
    clear hb1
    go_wp2_with fail
    refine (H2.out _).mono ?_
    rintro e w2 ⟨rfl, hb2⟩
    have B2 := Lib.hid (up_trans B1.out hb2)
    clear x0 x1 x2 hb2 A1 B1
    go_wp2
    go_ret
    exact ⟨rfl, B2.out⟩

/-- v is the block of scheme s. -/
def BlkV (w : World) (s : Sc) (v : Value) : Prop := ∃ b b' c', v = .agg #[.int .i64 s.c, .slice b (pcR s).length (pcR s).length, .slice b' (pcR s).length c'] ∧ GotP w b (panR s) ∧ GotN w b' (numR s)
theorem BlkV.up {w w' : World} {s : Sc} {v : Value} (h : BlkV w s v) (hb : Below w.heap.size w w') : BlkV w' s v := by
  obtain ⟨b, b', c', e, h1, h2⟩ := h
  exact ⟨b, b', c', e, h1.up hb, h2.up hb⟩
theorem edgN_bool (c x y : Int) (fx fy : Bool) : edgN c x y fx fy = if ((y == x + 1) && (y.tmod c != 0)) = true then (if fx = true then 1 else 2) else if (y == x + c) = true then (if fy = true then 3 else 4) else 0 := by
  unfold edgN
  simp only [Bool.and_eq_true, beq_iff_eq, bne_iff_ne]

theorem blkEdge_any (s : Sc) (v : Value) (a b : Int) (w : World) (hv : BlkV w s v) :
    Calls Tryz.prog 56 #[v, .int .i64 a, .int .i64 b] w fun e w' => e = .returned (.int .i64 (edgM s.c (pcR s) a b)) ∧ Below w.heap.size w w' := by
  obtain ⟨b1, b2, c', rfl, hP, hN⟩ := hv
  have hm : (pcR s).length ≤ 64 := by rw [← pcR_length]; exact (panR_length s).1
  by_cases h : (0 ≤ a ∧ a < (pcR s).length) ∧ 0 ≤ b ∧ b < (pcR s).length
  · obtain ⟨⟨ha0, ha1⟩, hb0, hb1⟩ := h
    obtain ⟨i, rfl⟩ := Int.eq_ofNat_of_zero_le ha0
    obtain ⟨k, rfl⟩ := Int.eq_ofNat_of_zero_le hb0
    have hi : i < (pcR s).length := by omega
    have hk : k < (pcR s).length := by omega
    obtain ⟨p, hp⟩ : ∃ p, (pcR s)[i]? = some p := ⟨_, List.getElem?_eq_getElem hi⟩
    obtain ⟨q, hq⟩ : ∃ q, (pcR s)[k]? = some q := ⟨_, List.getElem?_eq_getElem hk⟩
    obtain ⟨jp, hjp, ep, pp⟩ := pcR_at s i p hp
    obtain ⟨jq, hjq, eq, pq⟩ := pcR_at s k q hq
    have hc := pcR_c s (by omega)
    rw [edgM_in hp hq]
    obtain ⟨g1, rfl, hr1⟩ := hP.resolve_left (by intro e; rw [e] at pp; simp at pp)
    have np : (numR s)[i]? = some (jp : Int) := by rw [numR_eq, List.getElem?_map, hp, Option.map_some, ep]
    have nq : (numR s)[k]? = some (jq : Int) := by rw [numR_eq, List.getElem?_map, hq, Option.map_some, eq]
    obtain ⟨g2, rfl, hr2⟩ := hN.resolve_left (by intro e; rw [e] at np; simp at np)
    have x0 := hr2 _ _ np
    have y0 := hr2 _ _ nq
    unfold edgP
    rw [ep, eq]
    by_cases hle : (jp : Int) ≤ (jq : Int)
    · rw [if_pos hle]
      obtain ⟨p0, p1, p2⟩ := hr1.cells pp
      exact blkEdge_core s.c jp jq jp jq _ p.fx p.fy _ _ _ g1 g2 _ c' i k jp w hm hc hi hk hjp (Int.min_eq_left hle) (Int.max_eq_right hle) rfl (by omega) x0 y0 p0 p1 p2 rfl rfl rfl _ (edgN_bool ..)
    · rw [if_neg hle]
      obtain ⟨p0, p1, p2⟩ := hr1.cells pq
      exact blkEdge_core s.c jp jq jq jp _ q.fx q.fy _ _ _ g1 g2 _ c' i k jq w hm hc hi hk hjq (Int.min_eq_right (by omega)) (Int.max_eq_left (by omega)) rfl (by omega) x0 y0 p0 p1 p2 rfl rfl rfl _ (edgN_bool ..)
  · rw [edgM_out h]
    exact blkEdge_out _ _ _ _ _ _ _ _ _ _ hm h

/-- Lists that are new stay as they are where another block is written. -/
def NewAt (base : Nat) (b : Option Addr) : Prop := ∀ g, b = some ⟨g, 0, none⟩ → base ≤ g
theorem GotP.store {w : World} {b : Option Addr} {P : List Pn} (h : GotP w b P) {base : Nat} (hn : NewAt base b) {p : Addr} (hp : p.block < base) (x : Value) : GotP (w.setCell p x) b P := by
  rcases h with h | ⟨g, e, h⟩
  · exact .inl h
  · have := hn g e
    exact .inr ⟨g, e, h.same (Below.heap_setCell _ _ _ _ (by omega))⟩
theorem GotN.store {w : World} {b : Option Addr} {N : List Int} (h : GotN w b N) {base : Nat} (hn : NewAt base b) {p : Addr} (hp : p.block < base) (x : Value) : GotN (w.setCell p x) b N := by
  rcases h with h | ⟨g, e, h⟩
  · exact .inl h
  · have := hn g e
    exact .inr ⟨g, e, fun i y hy => (World.cell?_setCell_far _ _ _ _ (by simp only; omega)).trans (h i y hy)⟩
theorem unfOf_new (s : Sc) (a : Option Addr) (cap : Nat) (w : World) (hc : s.c ≤ 9223372036854775807) (hr : s.r ≤ 9223372036854775807) (hl : s.l.length ≤ 1000000) (hI : InL w a s.l) :
    Calls Tryz.prog 66 #[.agg #[.int .i64 s.c, .int .i64 s.r, .slice a s.l.length cap]] w fun e w' => ∃ b, e = .returned (.slice b (panR s).length (panR s).length) ∧ GotP w' b (panR s) ∧ NewAt w.heap.size b ∧ Below w.heap.size w w' := by
  cases h : rightM s
  · have e : panR s = [] := by unfold panR; rw [if_neg (by simp [h])]
    rw [e]
    exact (unfOf_no s a cap w hc hr hl hI h).mono fun _ _ ⟨h1, h2⟩ => ⟨none, h1, .inl rfl, fun _ e => by simp at e, h2⟩
  · have e : panR s = panL s := by unfold panR; rw [if_pos h]
    rw [e, panL_length, ← pcL_length]
    refine (unfOf_yes s a cap w hI h).mono fun _ _ ⟨g, h1, h2, h3, h4⟩ => ⟨_, h1, .inr ⟨g, rfl, h2⟩, fun g' e => ?_, h4⟩
    simp only [Option.some.injEq, Addr.mk.injEq] at e
    omega
theorem unfOrder_new (s : Sc) (a : Option Addr) (cap : Nat) (w : World) (hc : s.c ≤ 9223372036854775807) (hr : s.r ≤ 9223372036854775807) (hl : s.l.length ≤ 1000000) (hI : InL w a s.l) :
    Calls Tryz.prog 67 #[.agg #[.int .i64 s.c, .int .i64 s.r, .slice a s.l.length cap]] w fun e w' => ∃ b c, e = .returned (.slice b (numR s).length c) ∧ GotN w' b (numR s) ∧ NewAt w.heap.size b ∧ Below w.heap.size w w' := by
  cases h : rightM s
  · have e : numR s = [] := by unfold numR; rw [if_neg (by simp [h])]
    rw [e]
    exact (unfOrder_no s a cap w hc hr hl hI h).mono fun _ _ ⟨h1, h2⟩ => ⟨none, 0, h1, .inl rfl, fun _ e => by simp at e, h2⟩
  · have e : numR s = (pcL s).map Pc.n := by unfold numR; rw [if_pos h]
    rw [e]
    refine (unfOrder_yes s a cap w hI h).mono fun e w' ⟨v, h1, h2, h3⟩ => ?_
    have h0 : 0 < ((pcL s).map Pc.n).length := by
      obtain ⟨hc, hr, _, _, _⟩ := right_bounds h
      have hp : 1 ≤ s.c * s.r := Int.le_trans (by omega) (Int.mul_le_mul hc.1 hr.1 (by omega) (by omega) : 1 * 1 ≤ s.c * s.r)
      rw [List.length_map, pcL_length]
      omega
    obtain ⟨g, cap', rfl, hb, _, hc⟩ := rowI_form h2 h0
    refine ⟨_, _, h1, .inr ⟨g, rfl, hc⟩, fun g' e => ?_, h3⟩
    simp only [Option.some.injEq, Addr.mk.injEq] at e
    omega

set_option maxHeartbeats 1000000 in
theorem spFolded_any (s : Sc) (a : Option Addr) (cap : Nat) (w : World) (hc : s.c ≤ 9223372036854775807) (hr : s.r ≤ 9223372036854775807) (hl : s.l.length ≤ 1000000) (hI : InL w a s.l) :
    Calls Tryz.prog 55 #[.agg #[.int .i64 s.c, .int .i64 s.r, .slice a s.l.length cap]] w fun e w' => (∃ v, e = .returned v ∧ BlkV w' s v) ∧ Below w.heap.size w w' := by
  have K1 := fun w1 (h : Below w.heap.size w w1) => unfOf_new s a cap w1 hc hr hl (hI.up h)
  have K2 := fun w1 (h : Below w.heap.size w w1) => unfOrder_new s a cap w1 hc hr hl (hI.up h)
  have hn : (numR s).length = (pcR s).length := by rw [numR_eq, List.length_map]
  unfold BlkV
  rw [pcR_length] at K1
  rw [hn] at K2
  generalize (pcR s).length = m at *
  generalize panR s = P at *
  generalize numR s = N at *
  generalize s.l.length = n at *
  generalize s.c = c at *
  generalize s.r = r at *
  have H1 := Lib.hid K1; have H2 := Lib.hid K2
  clear K1 K2 hI hn
  go_enter Tryz.func55, Tryz.ntmps55
  go_wp2_with fail
  have A := (Bx.new w 26 [.int .i64 c, .int .i64 r, .slice a n cap]).alloc (.cells #[.int .i64 0, .slice none 0 0, .slice none 0 0] 82)
  have R := Bx.new (w.alloc (.cells #[.int .i64 c, .int .i64 r, .slice a n cap] 26)) 82 [.int .i64 0, .slice none 0 0, .slice none 0 0]
  simp only [World.size_alloc] at R
  have B1 := up_alloc (up_alloc (Below.refl _ w) (.cells #[.int .i64 c, .int .i64 r, .slice a n cap] 26)) (.cells #[.int .i64 0, .slice none 0 0, .slice none 0 0] 82)
  generalize (w.alloc (.cells #[.int .i64 c, .int .i64 r, .slice a n cap] 26)).alloc (.cells #[.int .i64 0, .slice none 0 0, .slice none 0 0] 82) = w1 at *
  have HB := Lib.hid B1; have HA := Lib.hid A; have HR := Lib.hid R
  have KS : ∀ w' : World, Below w1.heap.size w1 w' → w'.cell? ⟨w.heap.size, 0, none⟩ = some (.int .i64 c) ∧ w'.cell? ⟨w.heap.size, 1, none⟩ = some (.int .i64 r) ∧ w'.cell? ⟨w.heap.size, 2, none⟩ = some (.slice a n cap) := fun w' h =>
    have X := A.up h
    ⟨X.cell 0 rfl, X.cell 1 rfl, X.cell 2 rfl⟩
  have hsz : w1.heap.size > w.heap.size + 1 := R.lt
  have HKS := Lib.hid KS
  clear B1 A R KS
  go_region_held3 (fun w' => w'.cell? ⟨w.heap.size, 0, none⟩ = some (.int .i64 c) ∧ w'.cell? ⟨w.heap.size, 1, none⟩ = some (.int .i64 r) ∧ w'.cell? ⟨w.heap.size, 2, none⟩ = some (.slice a n cap))
    ((first | (refine HKS.out _ ?_; first | exact hB2 | exact hB1 | exact up_drew (Below.refl _ _)) | (have X := (((HA.out.up hB2).far (p := ⟨w.heap.size + 1, 0, none⟩) (Nat.ne_of_gt (Nat.lt_succ_self _)) (.int .i64 c)).far (p := ⟨w.heap.size + 1, 1, none⟩) (Nat.ne_of_gt (Nat.lt_succ_self _)) (.slice b1 m m)).far (p := ⟨w.heap.size + 1, 2, none⟩) (Nat.ne_of_gt (Nat.lt_succ_self _)) (.slice b2 m c2); exact ⟨X.cell 0 rfl, X.cell 1 rfl, X.cell 2 rfl⟩)))
    (first
      | (go_at_call 66; with_reducible refine (H1.out _ (up_drew HB.out)).mono ?_; rintro e w2 ⟨b1, rfl, hp1, hn1, hb1⟩; have hB1 : Below w1.heap.size w1 w2 := up_trans (up_drew (Below.refl _ _)) hb1)
      | (go_at_call 67; with_reducible refine (H2.out _ (up_trans HB.out hB1)).mono ?_; rintro e w3 ⟨b2, c2, rfl, hp2, hn2, hb2⟩; have hB2 : Below w1.heap.size w1 w3 := up_trans hB1 hb2; replace hp1 := hp1.up hb2; have r0 := (HR.out.up hB2).cell 0 rfl; have r1 := (HR.out.up hB2).cell 1 rfl; have r2 := (HR.out.up hB2).cell 2 rfl; have rf := (HR.out.up hB2).free))
  rename_i hHeld
  clear hHeld r0 r1 r2 rf
  have hs2 : w1.heap.size ≤ w2.heap.size := hB1.size
  have hw1 : w1.drew.heap.size = w1.heap.size := rfl
  have Rz := (((HR.out.up hB2).set 0 (.int .i64 c)).set 1 (.slice b1 m m)).set 2 (.slice b2 m c2)
  have Hp1 := Lib.hid (((hp1.store hn1 (p := ⟨w.heap.size + 1, 0, none⟩) (by simp only [hw1]; omega) (.int .i64 c)).store hn1 (p := ⟨w.heap.size + 1, 1, none⟩) (by simp only [hw1]; omega) (.slice b1 m m)).store hn1 (p := ⟨w.heap.size + 1, 2, none⟩) (by simp only [hw1]; omega) (.slice b2 m c2))
  have Hp2 := Lib.hid (((hp2.store hn2 (p := ⟨w.heap.size + 1, 0, none⟩) (by simp only; omega) (.int .i64 c)).store hn2 (p := ⟨w.heap.size + 1, 1, none⟩) (by simp only; omega) (.slice b1 m m)).store hn2 (p := ⟨w.heap.size + 1, 2, none⟩) (by simp only; omega) (.slice b2 m c2))
  have BB := up_trans HB.out hB2
  have BU := Lib.hid (up_set (up_set (up_set BB (p := ⟨w.heap.size + 1, 0, none⟩) (by simp only; omega) (.int .i64 c)) (p := ⟨w.heap.size + 1, 1, none⟩) (by simp only; omega) (.slice b1 m m)) (p := ⟨w.heap.size + 1, 2, none⟩) (by simp only; omega) (.slice b2 m c2))
  generalize ((w3.setCell ⟨w.heap.size + 1, 0, none⟩ (.int .i64 c)).setCell ⟨w.heap.size + 1, 1, none⟩ (.slice b1 m m)).setCell ⟨w.heap.size + 1, 2, none⟩ (.slice b2 m c2) = w4 at *
  have r0 := Rz.cell 0 rfl; have r1 := Rz.cell 1 rfl; have r2 := Rz.cell 2 rfl
  clear hp1 hp2 hn1 hn2 hb1 hb2 hB1 hB2 Rz BB
  go_wp2
  refine bodyPost_ret (v := .agg #[.int .i64 c, .slice b1 m m, .slice b2 m c2]) (by simp [results, Tryz.results55, go_sem, r0, r1, r2]) rfl ⟨⟨_, rfl, b1, b2, c2, rfl, Hp1.out, Hp2.out⟩, BU.out⟩

end Go.Proofs.YtbfigaadbfggcaaGreatDoor
/- What spine.Nests answers, for every scheme. -/
namespace Go.Proofs.YtbfigaadbfggcaaGreatDoor
open Go.RowKit
set_option linter.unusedVariables false

theorem pcR_small (s : Sc) : (pcR s).length ≤ 64 := by rw [← pcR_length]; exact (panR_length s).1

theorem spNests_odd (s : Sc) (a : Option Addr) (cap : Nat) (w : World) (hc : s.c ≤ 9223372036854775807) (hr : s.r ≤ 9223372036854775807) (hl : s.l.length ≤ 1000000) (hI : InL w a s.l) (ho : (pcR s).length = 0 ∨ (pcR s).length % 2 ≠ 0) :
    Calls Tryz.prog 43 #[.agg #[.int .i64 s.c, .int .i64 s.r, .slice a s.l.length cap]] w fun e w' => e = .returned (.bool (nestM s.c (pcR s))) ∧ Below w.heap.size w w' := by
  rw [nest_odd ho]
  have K1 := fun w1 (h : Below w.heap.size w w1) => spFolded_any s a cap w1 hc hr hl (hI.up h)
  have hm := pcR_small s
  have HB0 := Lib.hid (up_alloc (Below.refl _ w) (.cells #[.int .i64 s.c, .int .i64 s.r, .slice a s.l.length cap] 26))
  unfold BlkV at K1
  generalize (pcR s).length = m at *
  generalize s.l.length = n at *
  generalize s.c = c at *
  generalize s.r = r at *
  generalize panR s = P at *
  generalize numR s = N at *
  have H1 := Lib.hid K1
  clear K1 hI hc hr hl
  have hw : ∀ (w1 : World) (o : Obj), Below w.heap.size w w1 → Below w.heap.size w (w1.alloc o) := fun _ o h => up_alloc h o
  have HW := Lib.hid hw
  clear hw
  rcases ho with rfl | ho
  · go_enter Tryz.func43, Tryz.ntmps43
    go_wp2_with fail
    refine (H1.out _ HB0.out).mono ?_
    rintro e w1 ⟨⟨v, rfl, b1, b2, c', rfl, _, _⟩, hb⟩
    have B1 := Lib.hid (up_trans HB0.out hb)
    clear hb
    go_wp2
    go_ret
    exact ⟨rfl, HW.out _ _ B1.out⟩
  · have e0 : ((m : Int) == 0) = false := by rw [Bool.eq_false_iff, ne_eq, beq_iff_eq]; omega
    have e1 : (m : Int) % 2 = 1 := by omega
    have e2 : (m : Int).tmod 2 = 1 := by rw [Int.tmod_eq_emod_of_nonneg (by omega)]; omega
    clear ho
    go_enter Tryz.func43, Tryz.ntmps43
    go_wp2_with fail
    refine (H1.out _ HB0.out).mono ?_
    rintro e w1 ⟨⟨v, rfl, b1, b2, c', rfl, _, _⟩, hb⟩
    have B1 := Lib.hid (up_trans HB0.out hb)
    clear hb
    go_wp2
    go_ret
    exact ⟨rfl, HW.out _ _ B1.out⟩

/-- The first k leaves hang together at Left with those that stand as far from the end. -/
def NestRel (w2 : World) (c : Int) (L : List Pc) (h : Nat) (i : Value) (wr : World) : Prop :=
  ∃ k : Nat, k ≤ h ∧ i = .int .i64 (k : Int) ∧ Hid (∀ j, j < k → edgM c L (j : Int) ((L.length : Int) - 1 - (j : Int)) = 1) ∧ Below w2.heap.size w2 wr

set_option maxHeartbeats 1000000 in
theorem spNests_even (s : Sc) (a : Option Addr) (cap : Nat) (w : World) (hc : s.c ≤ 9223372036854775807) (hr : s.r ≤ 9223372036854775807) (hl : s.l.length ≤ 1000000) (hI : InL w a s.l) (h : Nat) (h0 : 0 < h) (he : (pcR s).length = 2 * h) :
    Calls Tryz.prog 43 #[.agg #[.int .i64 s.c, .int .i64 s.r, .slice a s.l.length cap]] w fun e w' => e = .returned (.bool (nestM s.c (pcR s))) ∧ Below w.heap.size w w' := by
  have K1 := fun w1 (h : Below w.heap.size w w1) => spFolded_any s a cap w1 hc hr hl (hI.up h)
  have hm := pcR_small s
  have KE := fun v w1 (hv : BlkV w1 s v) (x y : Int) => blkEdge_any s v x y w1 hv
  have HB0 := Lib.hid (up_alloc (Below.refl _ w) (.cells #[.int .i64 s.c, .int .i64 s.r, .slice a s.l.length cap] 26))
  have hno := fun k (hk : k < h) => @nest_no s.c (pcR s) k (by omega)
  have hyes := fun (hk : ∀ k : Nat, k < h → edgM s.c (pcR s) (k : Int) (((pcR s).length : Int) - 1 - (k : Int)) = 1) => @nest_yes s.c (pcR s) (by omega) (by omega) (fun k h2 => hk k (by omega))
  have hform : ∀ w1 v, BlkV w1 s v → ∃ b1 b2 c', v = .agg #[.int .i64 s.c, .slice b1 (pcR s).length (pcR s).length, .slice b2 (pcR s).length c'] := fun w1 v ⟨b1, b2, c', e, _⟩ => ⟨b1, b2, c', e⟩
  have hlen : (pcR s).length = (pcR s).length := rfl
  unfold NestRel at *
  generalize pcR s = L at *
  obtain ⟨m, hmm⟩ : ∃ m, L.length = m := ⟨_, rfl⟩
  rw [hmm] at hm hno hyes hform he
  obtain ⟨c, hcc⟩ : ∃ c, s.c = c := ⟨_, rfl⟩
  obtain ⟨r, hrr⟩ : ∃ r, s.r = r := ⟨_, rfl⟩
  obtain ⟨n, hnn⟩ : ∃ n, s.l.length = n := ⟨_, rfl⟩
  rw [hcc, hrr, hnn] at K1 HB0
  rw [hcc] at hno hyes hform KE
  rw [hcc, hrr, hnn]
  obtain ⟨V, hV⟩ : ∃ V, nestM c L = V := ⟨_, rfl⟩
  rw [hV] at hno hyes ⊢
  have H1 := Lib.hid K1; have HE := Lib.hid KE; have HNo := Lib.hid hno; have HYes := Lib.hid hyes; have HF := Lib.hid hform
  clear K1 KE hno hyes hform hI hc hr hl hcc hrr hnn hV hlen
  have e0 : ((m : Int) == 0) = false := by rw [Bool.eq_false_iff, ne_eq, beq_iff_eq]; omega
  have e1 : (m : Int) % 2 = 0 := by omega
  have e2 : (m : Int).tmod 2 = 0 := by rw [Int.tmod_eq_emod_of_nonneg (by omega)]; omega
  have e3 : (m : Int) / 2 = (h : Int) := by omega
  have e4 : (m : Int).tdiv 2 = (h : Int) := by rw [Int.tdiv_eq_ediv_of_nonneg (by omega)]; omega
  have hhm : (h : Int) + h = m := by omega
  clear he
  have HM := Lib.hid hmm
  clear hmm
  go_enter Tryz.func43, Tryz.ntmps43
  go_wp2_with fail
  refine (H1.out _ HB0.out).mono ?_
  rintro e w1 ⟨⟨v, rfl, hv⟩, hb⟩
  have HV := Lib.hid hv
  obtain ⟨b1, b2, c', rfl⟩ := HF.out _ _ hv
  have B1 := Lib.hid (up_trans HB0.out hb)
  clear hv hb
  go_wp2
  have A := Bx.new w1 82 [.int .i64 c, .slice b1 m m, .slice b2 m c']
  have HV2 := Lib.hid (HV.out.up (up_alloc (Below.refl _ w1) (.cells #[.int .i64 c, .slice b1 m m, .slice b2 m c'] 82)))
  have B2 := Lib.hid (up_alloc B1.out (.cells #[.int .i64 c, .slice b1 m m, .slice b2 m c'] 82))
  obtain ⟨W, hW⟩ : ∃ W, w1.alloc (.cells #[.int .i64 c, .slice b1 m m, .slice b2 m c'] 82) = W := ⟨_, rfl⟩
  have hW' : w1.alloc (.cells [.int .i64 c, .slice b1 m m, .slice b2 m c'].toArray 82) = W := hW
  rw [hW'] at A
  rw [hW] at HV2 B2
  have HA := Lib.hid A
  rw [hW]
  clear hW hW' A HV B1
  go_loopw [20] (fun i wr => NestRel W c L h i wr) (fun i _ => h - (intOf i).toNat)
  case atStart => exact ⟨0, by omega, by go_num, Lib.hid (fun j hj => absurd hj (Nat.not_lt_zero _)), Below.refl _ _⟩
  case round =>
    obtain ⟨k, hk, rfl, hall, hb⟩ := hrel
    have A := HA.out.up hb
    have f0 := A.cell 0 rfl; have f1 := A.cell 1 rfl; have f2 := A.cell 2 rfl
    have HB := Lib.hid hb
    have HVk := Lib.hid (HV2.out.up hb)
    clear hb A
    by_cases hlt : k < h
    · have z1 : (k : Int) < (h : Int) := by omega
      have KE := HE.out _ _ HVk.out (k : Int) ((m : Int) - 1 - (k : Int))
      have hno := HNo.out k hlt
      obtain ⟨E, hE⟩ : ∃ E, edgM c L (k : Int) ((m : Int) - 1 - (k : Int)) = E := ⟨_, rfl⟩
      rw [hE] at KE hno
      have HKE := Lib.hid KE; have HNk := Lib.hid hno; have HEk := Lib.hid hE
      clear KE hno hE
      by_cases h1 : E = 1
      · subst h1
        go_wp2_with fail
        refine HKE.out.mono ?_
        rintro e w3 ⟨rfl, hb3⟩
        have HB3 := Lib.hid (up_trans HB.out hb3)
        clear hb3 f0 f1 f2
        go_wp2
        refine ⟨⟨k + 1, by omega, by go_num, Lib.hid (fun j hj => ?_), HB3.out⟩, by simp [intOf]; omega⟩
        by_cases hjk : j < k
        · exact hall.out j hjk
        · obtain rfl : j = k := by omega
          rw [HM.out]
          exact HEk.out
      · have h1' : (E != 1) = true := bne_iff_ne.2 h1
        obtain rfl := HNk.out h1
        go_wp2_with fail
        refine HKE.out.mono ?_
        rintro e w3 ⟨rfl, hb3⟩
        have HB3 := Lib.hid (up_trans HB.out hb3)
        clear hb3 f0 f1 f2
        go_wp2
        go_ret
        exact ⟨rfl, up_trans B2.out HB3.out⟩
    · obtain rfl : k = h := by omega
      obtain rfl := HYes.out (by have := hall.out; rwa [HM.out] at this)
      go_wp2
      go_ret
      exact ⟨rfl, up_trans B2.out HB.out⟩

theorem spNests_any (s : Sc) (a : Option Addr) (cap : Nat) (w : World) (hc : s.c ≤ 9223372036854775807) (hr : s.r ≤ 9223372036854775807) (hl : s.l.length ≤ 1000000) (hI : InL w a s.l) :
    Calls Tryz.prog 43 #[.agg #[.int .i64 s.c, .int .i64 s.r, .slice a s.l.length cap]] w fun e w' => e = .returned (.bool (nestM s.c (pcR s))) ∧ Below w.heap.size w w' := by
  by_cases ho : (pcR s).length = 0 ∨ (pcR s).length % 2 ≠ 0
  · exact spNests_odd s a cap w hc hr hl hI ho
  · exact spNests_even s a cap w hc hr hl hI ((pcR s).length / 2) (by omega) (by omega)
end Go.Proofs.YtbfigaadbfggcaaGreatDoor
/- What scheme.tell answers: for every scheme. -/
namespace Go.Proofs.YtbfigaadbfggcaaGreatDoor
open Go.RowKit DecMath
set_option linter.unusedVariables false

/-- A scheme's text by its parts; empty: it has none. -/
def tellT (s : Sc) : ByteArray := if toldB s = true then tx (headT s ++ tailT s.l) else ⟨#[]⟩

def TellRel (H : List UInt8) (l : List Sp) (n : Nat) (w : World) (t i : Value) (wr : World) : Prop :=
  ∃ k : Nat, k ≤ n ∧ t = .string (tx (H ++ tailT (l.take k))) ∧ i = .int .i64 (k : Int) ∧ Hid (∀ p ∈ l.take k, rightB p.d p.n = true) ∧ ∃ u : Later w, wr = u.now
theorem take_snoc {α : Type} {l : List α} {k : Nat} {p : α} (h : l[k]? = some p) : l.take (k + 1) = l.take k ++ [p] := by
  obtain ⟨hlt, rfl⟩ := List.getElem?_eq_some_iff.1 h
  exact List.take_succ_eq_append_getElem hlt
theorem tail_snoc (l : List Sp) (p : Sp) : tailT (l ++ [p]) = tailT l ++ 32 :: textS p := by simp [tailT]
theorem tail_len (l : List Sp) (h : ∀ p ∈ l, rightB p.d p.n = true) : (tailT l).length ≤ 23 * l.length := by
  induction l with
  | nil => simp [tailT]
  | cons p l ih =>
    obtain ⟨⟨d0, d1⟩, n0, n1⟩ := rightB_true (h p (by simp))
    have := textS_len p (by omega) n1
    have := ih fun q hq => h q (by simp [hq])
    unfold tailT at this ⊢
    rw [List.flatMap_cons]
    simp only [List.length_append, List.length_cons]
    omega

theorem itoa_size (n : Int) (n0 : -9223372036854775808 ≤ n) (n1 : n ≤ 9223372036854775807) : (tx (Lib.itoa n)).size ≤ 20 := by rw [tx_size]; exact (itoa_len n n0 n1).2
end Go.Proofs.YtbfigaadbfggcaaGreatDoor
/- What scheme.catalogue yields: each name, in order, and the text of its scheme, as long as they are wanted, whatever is done with each. -/
namespace Go.Proofs.YtbfigaadbfggcaaGreatDoor
open Go.RowKit Go.Shelf
set_option linter.unusedVariables false

/-- A row of the catalogue. -/
abbrev CatE := { e : List UInt8 × Sc // e ∈ catS }
def catL : List CatE := catS.attach
def textE (x : CatE) : List UInt8 := joinM (partsM x.1.2)
/-- A name, and its scheme's text, as a loop's two variables. -/
def encE (x : CatE) : Array Value := #[.string (tx x.1.1), .string (tx (textE x))]
/-- A row as the program writes it. -/
def rowE (e : List UInt8 × Sc) : List UInt8 := e.1 ++ 32 :: joinM (partsC e.2)
theorem cat_cut : ∀ e ∈ catS, Lib.cut (rowE e) [32] = (e.1, joinM (partsC e.2), true) := by decide +kernel
theorem cat_split : ∀ e ∈ catS, Lib.split (joinM (partsC e.2)) [32] = partsC e.2 := by decide +kernel
theorem cat_short : ∀ e ∈ catS, (rowE e).length ≤ 100 ∧ (joinM (partsC e.2)).length ≤ 100 ∧ ∀ p ∈ partsC e.2, p.length ≤ 100 := by decide +kernel
theorem catL_length : catL.length = 21 := by simp [catL]; rfl
theorem catL_at {k : Nat} {x : CatE} (h : catL[k]? = some x) : catS[k]? = some x.1 := by
  unfold catL at h
  rw [List.getElem?_attach] at h
  simp only [Option.pmap_eq_some_iff] at h
  obtain ⟨a, ha, h1, rfl⟩ := h
  exact h1
theorem below_drewN {B : Nat} {a w : World} (h : Below B a w) : ∀ n, Below B a (w.drewN n)
  | 0 => h
  | n + 1 => (below_drewN h n).drew

def catC : Array Value := (catS.map fun e => Value.string (tx (rowE e))).toArray
def catZ : Array Value := (List.replicate 21 (Value.string ⟨#[]⟩)).toArray
theorem cat_alloc (w : World) : (Instr.alloc 115 true (.tuple #[])).run Tryz.prog w = .ok (.pointer (some ⟨w.heap.size, 0, none⟩)) (w.alloc (.cells catZ 115)) := by
  kernel_rfl

theorem cat_row (k : Nat) (e : List UInt8 × Sc) (h : catS[k]? = some e) (w : World) : (Instr.index 115 (.agg catC) (.int .i64 (k : Int))).run Tryz.prog w = .ok (.string (tx (rowE e))) w := by
  have hk : k < 21 := (List.getElem?_eq_some_iff.1 h).1
  have hc : k = 0 ∨ k = 1 ∨ k = 2 ∨ k = 3 ∨ k = 4 ∨ k = 5 ∨ k = 6 ∨ k = 7 ∨ k = 8 ∨ k = 9 ∨ k = 10 ∨ k = 11 ∨ k = 12 ∨ k = 13 ∨ k = 14 ∨ k = 15 ∨ k = 16 ∨ k = 17 ∨ k = 18 ∨ k = 19 ∨ k = 20 := by omega
  rcases hc with rfl | rfl | rfl | rfl | rfl | rfl | rfl | rfl | rfl | rfl | rfl | rfl | rfl | rfl | rfl | rfl | rfl | rfl | rfl | rfl | rfl
  all_goals
    obtain rfl := Option.some.inj h
    exact (show _ = _ from by kernel_rfl)
theorem grown_row (W : World) (cs cs' : Array Value) (t : TypeId) : W.grownBy ((W.alloc (.cells cs t)).setRow W.heap.size cs') none := by
  refine ⟨rfl, rfl, rfl, by simp [World.setRow], fun k hk _ => ?_⟩
  unfold World.setRow
  simp only [Array.getElem?_modify]
  rw [if_neg (by omega)]
  exact Below.heap_alloc W _ _ hk
theorem below_row (W : World) {B : Nat} (cs cs' : Array Value) (t : TypeId) (h : B ≤ W.heap.size) : Below B W ((W.alloc (.cells cs t)).setRow W.heap.size cs') := by
  have hg := grown_row W cs cs' t
  exact Below.grown (Below.refl B W) hg h (fun k e => by cases e)

theorem cat_cutRow (x : CatE) (w : World) (hm : Mx w) :
    Calls Tryz.prog 83 #[.string (tx (rowE x.1)), .string ⟨#[32]⟩] w fun e w' => e = .returned (.tuple #[.string (tx x.1.1), .string (tx (textE x)), .bool true]) ∧ ∃ n, w' = w.drewN n := by
  obtain ⟨m, hm⟩ := hm
  refine (Tryz.strings_Cut (tx (rowE x.1)) ⟨#[32]⟩ m w (by have := (cat_short x.1 x.2).1; rw [tx_size]; omega) hm).mono ?_
  rintro e w' ⟨rfl, n, rfl⟩
  refine ⟨?_, n, rfl⟩
  rw [data_tx, show (⟨#[32]⟩ : ByteArray).data.toList = [32] from rfl, cat_cut x.1 x.2]
  unfold textE
  rw [cat_parts x.1 x.2]
  rfl

set_option maxRecDepth 100000 in
set_option maxHeartbeats 4000000 in
theorem catalogue_in (n l0 n₀ : Nat) (J Jx : List CatE → World → Prop)
    (hal : ∀ pre W W', J pre W → W.grownBy W' none → J pre W')
    (hY : ∀ pre x W, J pre W → pre.length < 21 → YieldAt Fence.wide (n - 1) Tryz.prog l0 (encE x) W fun e W' =>
      (e = .returned (.bool true) ∧ J (pre ++ [x]) W' ∧ Below n₀ W W') ∨ (e = .returned (.bool false) ∧ Jx (pre ++ [x]) W'))
    (W : World) (hn : n₀ ≤ W.heap.size) (hm : ∃ m, 0 < n₀ ∧ W.cell? ⟨0, 0, none⟩ = some (.int .i64 m)) (h0 : J [] W) :
    CallsIn Fence.wide n Tryz.prog 75 #[.func (.yield l0) #[] #[]] W fun e W' => (∃ v, e = .returned v) ∧
      ((∃ ys, ys = catL ∧ J ys W') ∨ (∃ pre, (∃ k, k < 21 ∧ pre = catL.take (k + 1)) ∧ Jx pre W')) := by
  refine callsIn_of_wp Tryz.func75 rfl trivial ?_ rfl
  simp only [Tryz.ntmps75, List.size_toArray, List.length_cons, List.length_nil, Nat.reduceAdd, Nat.reduceSub, Array.replicate_succ, Array.replicate_zero, List.push_toArray, List.append_toArray, List.nil_append, List.cons_append]
  have HY := Lib.hid hY; have HJ := Lib.hid h0; have HN := Lib.hid hn; have HL := Lib.hid hal; have HM := Lib.hid hm
  clear hY hal h0 hm
  clear hn
  refine wpIn_seq (wpIn_wide.2 (wp_region_lit ?_))
  refine wpList_build_to rfl 115 _ rfl catC (by kernel_rfl) ?_
  refine wpList_alloc_to rfl _ rfl _ _ (cat_alloc W) ?_
  refine wpList_store_row rfl _ _ _ rfl W.heap.size catC rfl rfl _ _ (heap_alloc_new W _) (by kernel_rfl) (by kernel_rfl) (by kernel_rfl) ?_
  refine wpList_nil ?_
  show Code.wpIn Fence.wide n Tryz.prog _ _ _ _
  refine wpIn_seq (wpIn_wide.2 (wp_region_lit ?_))
  refine wpList_load_row rfl _ _ rfl W.heap.size rfl _ catC _ _ (setRow_heap _ _ _ _ _ _ (heap_alloc_new W _)) Tryz.underlying115 rfl (by kernel_rfl) ?_
  have hr := fun k e h w => cat_row k e h w
  obtain ⟨A, hA⟩ : ∃ A, Value.agg catC = A := ⟨_, rfl⟩
  have hg : W.grownBy ((W.alloc (.cells catZ 115)).setRow W.heap.size catC) none := grown_row W _ _ _
  have hw : Below n₀ W ((W.alloc (.cells catZ 115)).setRow W.heap.size catC) := below_row W _ _ _ HN.out
  have hJ1 := HL.out _ _ _ HJ.out hg
  rw [hA] at hr ⊢
  generalize ((W.alloc (.cells catZ 115)).setRow W.heap.size catC) = w1 at *
  have HJ1 := Lib.hid hJ1; have HB := Lib.hid hw; have HR := Lib.hid hr
  clear hA hg hw hJ1 hr
  refine wpList_plain rfl fun _ hK => ?_
  unfold Oper.wp execOp
  refine hK _ _ (wpList_nil ?_)
  show Code.wpIn Fence.wide n Tryz.prog _ _ _ _
  gi_wp2
  gi_loopw [10] (fun i wr => ∃ k : Nat, k ≤ 21 ∧ i = .int .i64 (k : Int) ∧ J (catL.take k) wr ∧ Below n₀ W wr) (fun i _ => 21 - (intOf i).toNat)
  case atStart => exact ⟨0, by omega, by go_num, HJ1.out, HB.out⟩
  case round =>
    obtain ⟨k, hk, rfl, hJs, hb⟩ := hrel
    by_cases hlt : k < 21
    · obtain ⟨x, hx⟩ : ∃ x, catL[k]? = some x := ⟨catL[k]'(by rw [catL_length]; exact hlt), List.getElem?_eq_getElem _⟩
      have hix := fun w => HR.out k x.1 (catL_at hx) w
      have hs := take_snoc hx
      have z0 : (0 : Int) ≤ (k : Int) := by omega
      have z1 : (k : Int) < 21 := by omega
      obtain ⟨m, hm, hcm⟩ := HM.out
      have KC := cat_cutRow x wr ⟨m, (hb.cell (p := ⟨0, 0, none⟩) hm).trans hcm⟩
      have KY := fun W' h => HY.out (catL.take k) x W' h (by rw [List.length_take, catL_length]; omega)
      unfold encE at KY
      have HKC := Lib.hid KC; have HKY := Lib.hid KY; have HS := Lib.hid hs; have HBk := Lib.hid hb; have HJk := Lib.hid hJs
      generalize tx (rowE x.1) = P at *
      generalize tx x.1.1 = Q at *
      generalize tx (textE x) = R at *
      clear KC KY hs hb hJs hx
      gi_wp2
      refine ⟨trivial, fun h => by simp [Fence.wide] at h, (callsIn_wide.2 HKC.out).mono ?_⟩
      rintro e w2 ⟨rfl, nd, rfl⟩
      have hJ2 := HL.out _ _ (wr.drewN nd) HJk.out ⟨rfl, rfl, rfl, Nat.le_refl _, fun _ _ _ => rfl⟩
      obtain ⟨fn, tmps, assign, body, hy, hR⟩ := HKY.out _ hJ2
      clear hJ2 HKY HKC hix hcm
      gi_wp2
      refine ⟨fun h => by simp [Fence.wide] at h, hR.mono ?_⟩
      rintro e W3 (⟨rfl, hJ3, hk3⟩ | ⟨rfl, hJx3⟩)
      · gi_wp2
        go_roundw
        case rel => exact ⟨k + 1, by omega, by go_num, by rw [HS.out]; exact hJ3, (below_drewN HBk.out nd).trans hk3⟩
        case measure => simp [intOf]; omega
      · gi_wp2
        refine bodyPost_ret (results_none rfl _ _ _) rfl ?_
        exact ⟨⟨_, rfl⟩, .inr ⟨_, ⟨k, hlt, rfl⟩, by rw [HS.out]; exact hJx3⟩⟩
    · obtain rfl : k = 21 := by omega
      have HJ2 := Lib.hid hJs
      clear hJs hb
      gi_wp2
      go_end0
      exact ⟨⟨_, rfl⟩, .inl ⟨_, rfl, by have := HJ2.out; rwa [List.take_of_length_le (by rw [catL_length]; omega)] at this⟩⟩

/-- What catalogue yields, as a range over it sees it; the body may write what lies in block n₀ or behind it. -/
theorem catalogue_from (n n₀ : Nat) (w : World) (hn : n₀ ≤ w.heap.size) (hm : ∃ m, 0 < n₀ ∧ w.cell? ⟨0, 0, none⟩ = some (.int .i64 m)) :
    SeqStopsK Fence.wide n Tryz.prog 75 #[] encE (Below n₀) (fun ys => ys = catL) (fun pre => ∃ k, k < 21 ∧ pre = catL.take (k + 1)) 21 w := fun l0 J Jx W hW hJ _ hY h0 => by
  obtain ⟨m, hlt, hm⟩ := hm
  exact catalogue_in n l0 n₀ J Jx (fun pre W W' h hg => hJ pre W W' none h hg (fun r e => by cases e)) hY W (by have := hW.size; omega) ⟨m, hlt, bl_cell hW hm⟩ h0
/-- What catalogue yields, as a range over it sees it. -/
theorem catalogue_stops (n : Nat) (w : World) (hm : Mx w) :
    SeqStopsK Fence.wide n Tryz.prog 75 #[] encE (Below w.heap.size) (fun ys => ys = catL) (fun pre => ∃ k, k < 21 ∧ pre = catL.take (k + 1)) 21 w := fun l0 J Jx W hW hJ _ hY h0 => by
  obtain ⟨m, hm⟩ := hm
  have hlt := World.block_lt_of_cell? w _ hm
  exact catalogue_in n l0 w.heap.size J Jx (fun pre W W' h hg => hJ pre W W' none h hg (fun r e => by cases e)) hY W hW.size ⟨m, hlt, bl_cell hW hm⟩ h0
end Go.Proofs.YtbfigaadbfggcaaGreatDoor
/- What scheme.Find answers: for every text. -/
namespace Go.Proofs.YtbfigaadbfggcaaGreatDoor
open Go.RowKit Go.Shelf
set_option linter.unusedVariables false
attribute [local go_sem] Oper.semAt_some

theorem InL.kept {W W' : World} {row : Option Nat} {a : Option Addr} {l : List Sp} (h : InL W a l) (hg : W.grownBy W' row) (hr : ∀ r, row = some r → ∃ o : Obj, W.heap[r]? = some o ∧ o.isCells = false) : InL W' a l := by
  rcases h with h | ⟨b, off, e, h⟩
  · exact .inl h
  · exact .inr ⟨b, off, e, fun j p hp => by
      obtain ⟨h0, h1, h2⟩ := h j p hp
      exact ⟨cell_kept h0 hg hr, cell_kept h1 hg hr, cell_kept h2 hg hr⟩⟩
theorem Cells.kept {W W' : World} {row : Option Nat} {B : Nat} {vs : List Value} (h : ∀ j v, vs[j]? = some v → W.cell? ⟨B, j, none⟩ = some v) (hg : W.grownBy W' row) (hr : ∀ r, row = some r → ∃ o : Obj, W.heap[r]? = some o ∧ o.isCells = false) : ∀ j v, vs[j]? = some v → W'.cell? ⟨B, j, none⟩ = some v := fun j v hj => cell_kept (h j v hj) hg hr

theorem cat_splitText (x : CatE) (w : World) (hm : Mx w) :
    Calls Tryz.prog 77 #[.string (tx (textE x)), .string ⟨#[32]⟩] w fun e w' => ∃ a c, e = .returned (.slice a (partsM x.1.2).length c) ∧ TxA w' a c (partsM x.1.2) ∧ Below w.heap.size w w' := by
  obtain ⟨m, hm⟩ := hm
  have ht : textE x = joinM (partsC x.1.2) := by unfold textE; rw [cat_parts x.1 x.2]
  have hs := cat_split x.1 x.2
  rw [← ht, ← cat_parts x.1 x.2] at hs
  have hz := (cat_short x.1 x.2).2.1
  rw [← ht] at hz
  have hl : (Lib.splitB ⟨#[32]⟩ 0 (Lib.countB (tx (textE x)) ⟨#[32]⟩) (tx (textE x))).map (·.data.toList) = partsM x.1.2 := by
    rw [Lib.splitB_data, data_tx, ← hs]
    unfold Lib.split Lib.countB
    rw [data_tx]
  have hn := Lib.splitB_all ⟨#[32]⟩ (by decide) 0 _ (tx (textE x)) rfl
  generalize hS : Lib.splitB ⟨#[32]⟩ 0 (Lib.countB (tx (textE x)) ⟨#[32]⟩) (tx (textE x)) = S at *
  have hlen : (partsM x.1.2).length = S.length := by rw [← hl]; simp
  refine (Tryz.strings_Split (tx (textE x)) ⟨#[32]⟩ m w (by rw [tx_size]; omega) hm (by decide)).mono ?_
  rintro e w' ⟨rfl, rfl⟩
  rw [hS, ← hn]
  refine ⟨some ⟨w.heap.size, 0, none⟩, S.length, by rw [hlen], .inr ⟨w.heap.size, 0, rfl, fun i l hi => ?_, by omega, ?_⟩, up_alloc (Below.refl _ _) _⟩
  · rw [← hl] at hi
    simp only [List.getElem?_map, Option.map_eq_some_iff] at hi
    obtain ⟨b, hb, rfl⟩ := hi
    rw [tx_data]
    have hlt := (List.getElem?_eq_some_iff.1 hb).1
    have hc : (w.alloc (.cells (S.map Value.string).toArray 9)).heap[w.heap.size]? = some (.cells (S.map Value.string).toArray 9 (0, 0)) := heap_alloc_new w _
    unfold World.cell?
    simp only [hc]
    simp [hb]
  · have : (partsM x.1.2).length ≤ 7 := by
      have := (toldB_true (cat_told x.1 x.2)).2.2.1
      simp [partsM]; omega
    unfold maxLen; omega

theorem InF.kept {W W' : World} {base : Nat} {row : Option Nat} {a : Option Addr} {l : List Sp} (h : InF base W a l) (hg : W.grownBy W' row) (hr : ∀ r, row = some r → ∃ o : Obj, W.heap[r]? = some o ∧ o.isCells = false) : InF base W' a l := by
  rcases h with h | ⟨b, off, e, h0, h⟩
  · exact .inl h
  · exact .inr ⟨b, off, e, h0, fun j p hp => by
      obtain ⟨h0, h1, h2⟩ := h j p hp
      exact ⟨cell_kept h0 hg hr, cell_kept h1 hg hr, cell_kept h2 hg hr⟩⟩
theorem keepsO_below {W W' : World} (h : Below W.heap.size W W') : KeepsOthers W W' := ⟨h.size, fun k o hk _ => (h.block k (Array.getElem?_eq_some_iff.1 hk).1).trans hk⟩
theorem find_own (c' : Code) (nm : List UInt8) (w : World) (B : Nat) (hB : w.heap.size ≤ B) : OwnFrom B (fun (_ : List CatE) W => c' = .ret ∧ ∃ (s : Sc) (a : Option Addr) (cap : Nat), findM nm = some s ∧ (∀ j v, [Value.int .i64 s.c, .int .i64 s.r, .slice a s.l.length cap][j]? = some v → W.cell? ⟨w.heap.size + 1, j, none⟩ = some v) ∧ W.cell? ⟨w.heap.size + 1 + 1, 0, none⟩ = some (.bool true) ∧ InF w.heap.size W a s.l ∧ Below w.heap.size w W) := by
  rintro _ W W' row ⟨e, s, a, cap, h1, h2, h3, h4, h5⟩ hg hr
  have hr' : ∀ r, row = some r → ∃ o : Obj, W.heap[r]? = some o ∧ o.isCells = false := fun r e => (hr r e).2
  exact ⟨e, s, a, cap, h1, Cells.kept h2 hg hr', cell_kept h3 hg hr', h4.kept hg hr', h5.grown hg h5.size (fun k e => by have := (hr k e).1; omega)⟩

set_option maxRecDepth 100000 in
set_option maxHeartbeats 4000000 in
theorem schFind_any (nm : List UInt8) (w : World) (hg : GoodM w) : Calls Tryz.prog 65 #[.string (tx nm)] w (GivesS (findM nm) w) := by
  obtain ⟨N, hN⟩ : ∃ N, tx nm = N := ⟨_, rfl⟩
  have HN := Lib.hid hN
  rw [hN]
  clear hN
  refine (callsIn_wide (n := 3)).1 ?_
  refine callsIn_of_wp_marks Tryz.func65 rfl trivial ?_ rfl
  simp only [Tryz.ntmps65, List.size_toArray, List.length_cons, List.length_nil, Nat.reduceAdd, Nat.reduceSub, Array.replicate_succ, Array.replicate_zero, List.push_toArray, List.append_toArray, List.nil_append, List.cons_append]
  gi_wp2
  have x0 := ((Bx.new w 9 [.string N]).alloc (.cells #[.int .i64 0, .int .i64 0, .slice none 0 0] 26)).alloc (.cells #[.bool false] 4)
  have x1 := (Bx.new (w.alloc (.cells #[.string N] 9)) 26 [.int .i64 0, .int .i64 0, .slice none 0 0]).alloc (.cells #[.bool false] 4)
  have x2 := Bx.new ((w.alloc (.cells #[.string N] 9)).alloc (.cells #[.int .i64 0, .int .i64 0, .slice none 0 0] 26)) 4 [.bool false]
  simp only [World.size_alloc] at x1 x2
  obtain ⟨W0, hW0⟩ : ∃ W0, (((w.alloc (.cells #[.string N] 9)).alloc (.cells #[.int .i64 0, .int .i64 0, .slice none 0 0] 26)).alloc (.cells #[.bool false] 4)) = W0 := ⟨_, rfl⟩
  have upw : Below w.heap.size w W0 := by rw [← hW0]; exact up_alloc (up_alloc (up_alloc (Below.refl _ _) _) _) _
  have hsz : W0.heap.size = w.heap.size + 3 := by rw [← hW0]; simp
  have X0 : Bx W0 w.heap.size [.string N] := by rw [← hW0]; exact x0
  have X1 : Bx W0 (w.heap.size + 1) [.int .i64 0, .int .i64 0, .slice none 0 0] := by rw [← hW0]; exact x1
  have X2 : Bx W0 (w.heap.size + 1 + 1) [.bool false] := by rw [← hW0]; exact x2
  rw [hW0]
  clear hW0 x0 x1 x2
  have G0 := hg.below upw
  have HU := Lib.hid upw; have HSZ := Lib.hid hsz; have HX0 := Lib.hid X0; have HX1 := Lib.hid X1; have HX2 := Lib.hid X2; have HG := Lib.hid G0
  clear upw X0 X1 X2 G0 hg
  refine wpIn_rangeFunc_ownG_of_H rfl (by decide) (gf := 75) (lb := #[]) rfl trivial (enters_of Tryz.func75 (by kernel_rfl) rfl)
    (catalogue_stops 2 W0 HG.out.2) belowK_t (belowK_b (Nat.le_refl _)) (Below.refl _ _) (fun _ => rfl)
    (fun pre W => (∀ e ∈ pre, e.1.1 ≠ nm) ∧ Below W0.heap.size W0 W)
    (fun c' pre W => c' = .ret ∧ ∃ (s : Sc) (a : Option Addr) (cap : Nat), findM nm = some s ∧ (∀ j v, [Value.int .i64 s.c, .int .i64 s.r, .slice a s.l.length cap][j]? = some v → W.cell? ⟨w.heap.size + 1, j, none⟩ = some v) ∧ W.cell? ⟨w.heap.size + 1 + 1, 0, none⟩ = some (.bool true) ∧ InF w.heap.size W a s.l ∧ Below w.heap.size w W)
    (OwnFrom.and (ownFrom_pure _ _) (ownFrom_below (Nat.le_refl _) (Nat.le_refl _)))
    (fun c' => find_own c' nm w W0.heap.size (by omega))
    ⟨fun e he => (by cases he), Below.refl _ _⟩
    (fun x => { tmps := #[.string N, .pointer (some ⟨w.heap.size, 0, none⟩), .pointer (some ⟨w.heap.size + 1, 0, none⟩), .pointer (some ⟨w.heap.size + 1 + 1, 0, none⟩), .string (tx x.1.1), .string (tx (textE x)), .string (tx x.1.1), .string (tx (textE x)), undef, undef, undef, undef, undef, undef, undef, undef, undef], defers := [] })
    ?assign ?body ?done ?stop (Below.refl _)
  case assign =>
    intro l x W K hK
    unfold encE
    gi_wp2
    exact hK
  case body =>
    rintro l0 pre x W ⟨hne, hB⟩ hlen
    have y0 := HX0.out.up hB
    have y1 := HX1.out.up hB
    have y2 := HX2.out.up hB
    have a0 := y0.cell 0 rfl
    have hz := hB.size
    have HB := Lib.hid hB; have HNE := Lib.hid hne
    have GW := Lib.hid (HG.out.below hB)
    have e := tx_same x.1.1 nm
    rw [HN.out] at e
    by_cases hx : x.1.1 = nm
    · rw [decide_eq_true hx] at e
      have HF := Lib.hid (show findM nm = some x.1.2 by rw [← hx]; exact (find_of_mem x.2).1)
      have KS := cat_splitText x W GW.out.2
      have KR := fun a c w1 (h : TxA w1 a c (partsM x.1.2)) (hg : GoodM w1) => schRead_any a c (partsM x.1.2) w1 h (fun p hp => by rw [cat_parts x.1 x.2] at hp; have := (cat_short x.1 x.2).2.2 p hp; omega) hg
      rw [read_parts x.1.2 (cat_told x.1 x.2)] at KR
      have HKS := Lib.hid KS; have HKR := Lib.hid KR
      generalize tx (textE x) = T at *
      generalize tx x.1.1 = Q at *
      generalize partsM x.1.2 = ls at *
      generalize x.1.2 = s at *
      clear KS KR hne hB hx
      gi_wp2_with (first
        | (refine ⟨trivial, ?_⟩; gi_at_call 77; refine (CallsIn.inRound l0 (callsIn_wide.2 HKS.out)).mono ?_; rintro e w1 ⟨a1, c1, rfl, hT, hb1⟩)
        | (refine ⟨trivial, ?_⟩; gi_at_call 76; refine (CallsIn.inRound l0 (callsIn_wide.2 (HKR.out _ _ _ hT (GW.out.below hb1)))).mono ?_; rintro e w2 ⟨a2, c2, rfl, hF, hb2⟩; have q1 := (y1.up hb1).up hb2; have q2 := (y2.up hb1).up hb2; have r0 := q1.cell 0 rfl; have r1 := q1.cell 1 rfl; have r2 := q1.cell 2 rfl; have rf := q1.free; have s0 := q2.cell 0 rfl; have sf := q2.free))
      have ho := (((keepsO_below (up_trans hb1 hb2)).trans (KeepsOthers.setCell w2 ⟨w.heap.size + 1, 0, none⟩ (.int .i64 s.c))).trans (KeepsOthers.setCell _ ⟨w.heap.size + 1, 1, none⟩ (.int .i64 s.r))).trans ((KeepsOthers.setCell _ ⟨w.heap.size + 1, 2, none⟩ (.slice a2 s.l.length c2)).trans (KeepsOthers.setCell _ ⟨w.heap.size + 1 + 1, 0, none⟩ (.bool true)))
      refine ⟨ho.from _, rfl, s, a2, c2, HF.out, ((q1.set3 _ _ _).far (p := ⟨w.heap.size + 1 + 1, 0, none⟩) (by simp only; omega) _).1, ?_, ?_, ?_⟩
      · exact (((((q2.far (p := ⟨w.heap.size + 1, 0, none⟩) (by simp only; omega) _).far (p := ⟨w.heap.size + 1, 1, none⟩) (by simp only; omega) _).far (p := ⟨w.heap.size + 1, 2, none⟩) (by simp only; omega) _).set 0 (.bool true)).cell 0 rfl)
      · have hs1 := hb1.size
        have hF' : InF (w.heap.size + 3) w2 a2 s.l := InF.mono hF (by omega)
        refine InF.mono (base := w.heap.size + 3) ?_ (by omega)
        repeat (first | (with_reducible exact hF') | (with_reducible refine InF.set ?_ (by simp only; omega) _))
      · have B2 := (HU.out.trans (HB.out.mono (by omega))).trans ((up_trans hb1 hb2).mono (by omega))
        repeat (first | (with_reducible exact B2) | (with_reducible refine up_set ?_ (by simp only; omega) _))
    · rw [decide_eq_false hx] at e
      generalize tx (textE x) = T at *
      have HX := Lib.hid hx
      generalize tx x.1.1 = Q at *
      clear hne hB hx
      gi_wp2
      exact ⟨KeepsFrom.refl _ _, Below.refl _ _, fun y hy => by
        rcases List.mem_append.1 hy with h | h
        · exact HNE.out y h
        · obtain rfl := List.mem_singleton.1 h; exact HX.out, HB.out⟩
  case done =>
    rintro D ys W hD rfl ⟨hne, hB⟩ hK
    have E := Lib.hid (show findM nm = none from find_none fun e he h => hne ⟨e, he⟩ (List.mem_attach _ _) h)
    have y1 := HX1.out.up hB
    have y2 := HX2.out.up hB
    have r0 := y1.cell 0 rfl; have r1 := y1.cell 1 rfl; have r2 := y1.cell 2 rfl; have rf := y1.free; have s0 := y2.cell 0 rfl; have sf := y2.free
    have hB1 := Lib.hid (HU.out.trans (hB.mono (by omega)))
    clear hne hB
    gi_wp2
    have hK' := ((((KeepsOthers.setCell W ⟨w.heap.size + 1, 0, none⟩ (.int .i64 0)).trans (KeepsOthers.setCell _ ⟨w.heap.size + 1, 1, none⟩ (.int .i64 0))).trans (KeepsOthers.setCell _ ⟨w.heap.size + 1, 2, none⟩ (.slice none 0 0))).trans (KeepsOthers.setCell _ ⟨w.heap.size + 1 + 1, 0, none⟩ (.bool false))).same D _ hK rfl
    refine ⟨by simp, .inl ⟨_, _, rfl, run_takeDeferred hK', ?_⟩⟩
    have p0 := Cells.kept ((y1.set3 (.int .i64 0) (.int .i64 0) (.slice none 0 0)).far (p := ⟨w.heap.size + 1 + 1, 0, none⟩) (by simp only; omega) (.bool false)).1 (grownBy_putObj' _ D (.deferred none)) (fun r e => by cases e; exact ⟨_, hK', rfl⟩)
    have p1 := cell_kept (((((y2.far (p := ⟨w.heap.size + 1, 0, none⟩) (by simp only; omega) (.int .i64 0)).far (p := ⟨w.heap.size + 1, 1, none⟩) (by simp only; omega) (.int .i64 0)).far (p := ⟨w.heap.size + 1, 2, none⟩) (by simp only; omega) (.slice none 0 0)).set 0 (.bool false)).cell 0 rfl) (grownBy_putObj' _ D (.deferred none)) (fun r e => by cases e; exact ⟨_, hK', rfl⟩)
    have c0 := p0 0 _ rfl; have c1 := p0 1 _ rfl; have c2 := p0 2 _ rfl
    refine ⟨.tuple #[.agg #[.int .i64 0, .int .i64 0, .slice none 0 0], .bool false], by simp [results, Tryz.results65, go_sem, c0, c1, c2, p1], ?_⟩
    rw [E.out]
    refine gives_none ?_
    refine Below.trans ?_ (belowK_b (w := w) (Nat.le_refl _) _ D _ _ (by omega) hK' rfl rfl)
    have B2 := hB1.out
    repeat (first | (with_reducible exact B2) | (with_reducible refine up_set ?_ (by simp only; omega) _))
  case stop =>
    rintro D c' pre W hD hpre ⟨rfl, s, a, cap, h1, h2, h3, h4, h5⟩ hK
    have H2 := Lib.hid h2; have H4 := Lib.hid h4; have H5 := Lib.hid h5; have H1 := Lib.hid h1
    clear h1 h2 h4 h5
    gi_wp2
    refine ⟨by simp, .inl ⟨_, _, rfl, run_takeDeferred hK, ?_⟩⟩
    have p0 := Cells.kept H2.out (grownBy_putObj' _ D (.deferred none)) (fun r e => by cases e; exact ⟨_, hK, rfl⟩)
    have p1 := cell_kept h3 (grownBy_putObj' _ D (.deferred none)) (fun r e => by cases e; exact ⟨_, hK, rfl⟩)
    have c0 := p0 0 _ rfl; have c1 := p0 1 _ rfl; have c2 := p0 2 _ rfl
    refine ⟨.tuple #[.agg #[.int .i64 s.c, .int .i64 s.r, .slice a s.l.length cap], .bool true], by simp [results, Tryz.results65, go_sem, c0, c1, c2, p1], ?_⟩
    rw [H1.out]
    exact ⟨a, cap, rfl, H4.out.kept (grownBy_putObj' _ D (.deferred none)) (fun r e => by cases e; exact ⟨_, hK, rfl⟩), H5.out.trans (belowK_b (w := w) (Nat.le_refl _) _ D _ _ (by omega) hK rfl rfl)⟩
end Go.Proofs.YtbfigaadbfggcaaGreatDoor
/- What split.mayEnd and split.Last answer. -/
namespace Go.Proofs.YtbfigaadbfggcaaGreatDoor
open Go.RowKit
set_option linter.unusedVariables false
set_option linter.unusedSimpArgs false

set_option maxHeartbeats 1000000 in
theorem spMay_core (cs : List Value) (b c r p q : Int) (a : Option Addr) (n cap : Nat) (N : ByteArray) (sc sr : Int) (l : List Sp) (m : Nat) (u v t V : Bool) (w : World) (h11 : cs[11]? = some (.int .i64 b)) (h12 : cs[12]? = some (.int .i64 c)) (h13 : cs[13]? = some (.int .i64 r)) (h14 : cs[14]? = some (.slice a n cap))
    (e1 : decide (q ≤ p) = t) (e2 : (b == 1) = v) (e3 : (b != 1) = !v)
    (KF : ∀ w1, Below w.heap.size w w1 → Calls Tryz.prog 65 #[.string N] w1 fun e w' => ∃ a1 c1, e = .returned (.tuple #[.agg #[.int .i64 sc, .int .i64 sr, .slice a1 m c1], .bool u]) ∧ InL w' a1 l ∧ Below w1.heap.size w1 w')
    (KP : ∀ a m k w1, Calls Tryz.prog 34 #[.agg #[.int .i64 sc, .int .i64 sr, .slice a m k]] w1 fun e w' => e = .returned (.int .i64 p) ∧ Below w1.heap.size w1 w')
    (KQ : ∀ w1, Calls Tryz.prog 34 #[.agg #[.int .i64 c, .int .i64 r, .slice a n cap]] w1 fun e w' => e = .returned (.int .i64 q) ∧ Below w1.heap.size w1 w')
    (KN : ∀ a1 k w1, InL w1 a1 l → Calls Tryz.prog 43 #[.agg #[.int .i64 sc, .int .i64 sr, .slice a1 m k]] w1 fun e w' => e = .returned (.bool V) ∧ Below w1.heap.size w1 w') :
    Calls Tryz.prog 64 #[.agg cs.toArray, .string N] w fun e w' => e = .returned (.bool (u && (!t && (!v || V)))) ∧ Below w.heap.size w w' := by
  have HX := Bx.new w 29 cs
  have HB := Lib.hid (up_alloc (Below.refl w.heap.size w) (.cells cs.toArray 29))
  have c11 := HX.cell 11 h11; have c12 := HX.cell 12 h12; have c13 := HX.cell 13 h13; have c14 := HX.cell 14 h14
  have HF := Lib.hid KF; have HP := Lib.hid KP; have HQ := Lib.hid KQ; have HN := Lib.hid KN
  clear KF KP KQ KN h11 h12 h13 h14 HX
  generalize cs.toArray = ca at *
  go_enter Tryz.func64, Tryz.ntmps64
  go_wp2_with fail
  refine (HF.out _ HB.out).mono ?_
  rintro e w1 ⟨a1, k1, rfl, hI, hb⟩
  have S := Bx.new w1 26 [.int .i64 sc, .int .i64 sr, .slice a1 m k1]
  have U := up_alloc (Below.refl w1.heap.size w1) (.cells #[.int .i64 sc, .int .i64 sr, .slice a1 m k1] 26)
  have B1 := Lib.hid (up_trans (up_trans HB.out hb) U)
  have b11 := bl_cell U (bl_cell hb c11); have b12 := bl_cell U (bl_cell hb c12); have b13 := bl_cell U (bl_cell hb c13); have b14 := bl_cell U (bl_cell hb c14)
  have s0 := S.cell 0 rfl; have s1 := S.cell 1 rfl; have s2 := S.cell 2 rfl
  have HI := Lib.hid (hI.up U)
  clear hb S U c11 c12 c13 c14 hI
  go_wp2_with fail
  obtain ⟨w2, hw2⟩ : ∃ w2, w1.alloc (.cells #[.int .i64 sc, .int .i64 sr, .slice a1 m k1] 26) = w2 := ⟨_, rfl⟩
  rw [hw2] at b11 b12 b13 b14 s0 s1 s2 HI B1 ⊢
  clear hw2
  cases u
  · clear e1 e2 e3
    refine later_start (w := w2) ?_
    intro x
    refine wp_region_later (by kernel_rfl) (by kernel_rfl) ?_
    repeat (go_big_quiet_step (fail))
    refine wpQuiet_nil ?_
    rintro _ ⟨x2, rfl⟩
    have BB := Lib.hid (up_trans B1.out x2.up)
    go_wp2
    go_ret
    exact ⟨rfl, BB.out⟩
  have j0 := fun x : Later w2 => x.cell s0
  have j1 := fun x : Later w2 => x.cell s1
  have j2 := fun x : Later w2 => x.cell s2
  have j11 := fun x : Later w2 => x.cell b11
  have j12 := fun x : Later w2 => x.cell b12
  have j13 := fun x : Later w2 => x.cell b13
  have j14 := fun x : Later w2 => x.cell b14
  clear s0 s1 s2 b11 b12 b13 b14
  cases t
  · cases v
    · refine later_start (w := w2) ?_
      intro x
      refine wp_region_later (by kernel_rfl) (by kernel_rfl) ?_
      repeat (go_big_quiet_step ((go_at_call 34; first | with_reducible exact Later.call (HP.out _ _ _ _) | with_reducible exact Later.call (HQ.out _))))
      refine wpQuiet_nil ?_
      rintro _ ⟨x2, rfl⟩
      have BB := Lib.hid (up_trans B1.out x2.up)
      go_wp2
      go_ret
      exact ⟨rfl, BB.out⟩
    · refine later_start (w := w2) ?_
      intro x
      refine wp_region_later (by kernel_rfl) (by kernel_rfl) ?_
      repeat (go_big_quiet_step ((go_at_call 34; first | with_reducible exact Later.call (HP.out _ _ _ _) | with_reducible exact Later.call (HQ.out _))))
      refine wpQuiet_nil ?_
      rintro _ ⟨x2, rfl⟩
      have BB := Lib.hid (up_trans B1.out x2.up)
      go_wp2_with fail
      refine (HN.out _ _ _ (HI.out.up x2.up)).mono ?_
      rintro e w3 ⟨rfl, hb⟩
      have B3 := Lib.hid (up_trans BB.out hb)
      clear hb
      go_wp2
      go_ret
      exact ⟨by simp, B3.out⟩
  · refine later_start (w := w2) ?_
    intro x
    refine wp_region_later (by kernel_rfl) (by kernel_rfl) ?_
    repeat (go_big_quiet_step ((go_at_call 34; first | with_reducible exact Later.call (HP.out _ _ _ _) | with_reducible exact Later.call (HQ.out _))))
    refine wpQuiet_nil ?_
    rintro _ ⟨x2, rfl⟩
    have BB := Lib.hid (up_trans B1.out x2.up)
    go_wp2
    go_ret
    exact ⟨rfl, BB.out⟩

theorem found_bounds (nm : List UInt8) : ((findM nm).getD zeroSc).c ≤ 9223372036854775807 ∧ ((findM nm).getD zeroSc).r ≤ 9223372036854775807 ∧ ((findM nm).getD zeroSc).l.length ≤ 6 := by
  cases h : findM nm with
  | none => exact ⟨by decide, by decide, by decide⟩
  | some s =>
    have := right_bounds (find_right h)
    simp only [Option.getD_some]
    omega
/-- The walk's truths are those of the plain function. -/
theorem may_eq (b p q : Int) (u V : Bool) : (u && (!(decide (q ≤ p)) && (!(b == 1) || V))) = (u && (decide (p < q) && (!decide (b = 1) || V))) := by
  have e1 : (b == 1) = decide (b = 1) := by rw [Bool.eq_iff_iff]; simp
  have e2 : (!(decide (q ≤ p))) = decide (p < q) := by rw [Bool.eq_iff_iff]; simp
  rw [e1, e2]
theorem spMay_any (cs : List Value) (j : Jb) (nm : List UInt8) (w : World) (h : JobA w cs j) (hg : GoodM w) :
    Calls Tryz.prog 64 #[.agg cs.toArray, .string (tx nm)] w fun e w' => e = .returned (.bool (endB (j.n 10) (panS j.f) nm)) ∧ Below w.heap.size w w' := by
  obtain ⟨a, c, a', c', h12, h13, h14, h15, hI, hT⟩ := h.cells
  obtain ⟨g1, g2, g3⟩ := found_bounds nm
  have K := spMay_core cs (j.n 10) j.f.c j.f.r _ _ a _ c (tx nm) _ _ ((findM nm).getD zeroSc).l _ _ _ _ _ w (h.num (k := 10) (by decide)) h12 h13 h14 rfl rfl rfl
    (fun w1 hb => (schFind_any nm w1 (hg.below hb)).mono fun e w' ⟨a1, c1, he, hF, hb1⟩ => ⟨a1, c1, he, hF.inL, hb1⟩)
    (fun a m k w1 => schPanels_any _ _ a m k w1) (fun w1 => schPanels_any _ _ _ _ _ w1) (fun a1 k w1 hI1 => spNests_any _ a1 k w1 g1 g2 (by omega) hI1)
  rw [may_eq] at K
  exact K

end Go.Proofs.YtbfigaadbfggcaaGreatDoor
/- What the reference's Light tells of a job: where it answers true, the job is small. -/
namespace Go.Proofs.YtbfigaadbfggcaaGreatDoor
open Go.RowKit
set_option linter.unusedVariables false
set_option linter.unusedSimpArgs false

theorem take_next {α : Type} {l : List α} {k : Nat} {x : α} (h : l[k]? = some x) : l.take (k + 1) = l.take k ++ [x] := by
  rw [List.take_add_one, h]; rfl
/-- A job is small enough to be gone through. -/
def SmallJ (j : Jb) : Prop := j.t.length ≤ 100 ∧ j.ls.length ≤ 6 ∧ j.f.l.length ≤ 10 ∧ (j.n 0 ≤ 300 ∨ 100000 < j.n 0) ∧ ∀ x ∈ j.ls, x.length ≤ 60

theorem light_out (T : ByteArray) (n : Nat → Int) (c r : Int) (a a' : Option Addr) (m d k d' : Nat) (b1 b2 b3 b4 b5 : Bool) (w : World) (h1 : decide ((100 : Int) < (T.size : Int)) = b1) (h2 : decide ((6 : Int) < (k : Int)) = b2) (h3 : decide ((10 : Int) < (m : Int)) = b3) (h4 : decide ((300 : Int) < n 0) = b4) (h5 : decide (n 0 ≤ 100000) = b5)
    (h : (b1 || b2 || b3 || (b4 && b5)) = true) :
    Calls Tryz.prog 8 #[.agg (jobL T n c r (.slice a m d) (.slice a' k d')).toArray] w fun e w' => e = .returned (.bool false) ∧ Below w.heap.size w w' := by
  have HX := Bx.new w 29 (jobL T n c r (.slice a m d) (.slice a' k d'))
  have c0 := HX.cell 0 rfl; have c1 := HX.cell 1 rfl; have c14 := HX.cell 14 rfl; have c15 := HX.cell 15 rfl
  have HB := Lib.hid (up_alloc (Below.refl w.heap.size w) (.cells (jobL T n c r (.slice a m d) (.slice a' k d')).toArray 29))
  clear HX
  generalize n 0 = p at *
  generalize (jobL T n c r (.slice a m d) (.slice a' k d')).toArray = cs at *
  have HH := Lib.hid h
  clear h
  cases b1
  · cases b2
    · cases b3
      · cases b4
        · exact absurd HH.out (by simp)
        · cases b5
          · exact absurd HH.out (by decide)
          · go_enter Tryz.func8, Tryz.ntmps8
            go_wp2
            go_ret
            exact ⟨rfl, HB.out⟩
      · go_enter Tryz.func8, Tryz.ntmps8
        go_wp2
        go_ret
        exact ⟨rfl, HB.out⟩
    · go_enter Tryz.func8, Tryz.ntmps8
      go_wp2
      go_ret
      exact ⟨rfl, HB.out⟩
  · go_enter Tryz.func8, Tryz.ntmps8
    go_wp2
    go_ret
    exact ⟨rfl, HB.out⟩

theorem light_in (T : ByteArray) (n : Nat → Int) (c r : Int) (a a' : Option Addr) (m d k d' : Nat) (ls : List (List UInt8)) (b4 b5 : Bool) (w : World) (hk : ls.length = k) (hT : TxA w a' d' ls) (hz : ∀ x ∈ ls, x.length ≤ maxLen)
    (h1 : decide ((100 : Int) < (T.size : Int)) = false) (h2 : decide ((6 : Int) < (k : Int)) = false) (h3 : decide ((10 : Int) < (m : Int)) = false) (h4 : decide ((300 : Int) < n 0) = b4) (h5 : decide (n 0 ≤ 100000) = b5)
    (h : (b4 && b5) = false) :
    Calls Tryz.prog 8 #[.agg (jobL T n c r (.slice a m d) (.slice a' k d')).toArray] w fun e w' => ∃ b, e = .returned (.bool b) ∧ (b = true → ∀ x ∈ ls, x.length ≤ 60) ∧ Below w.heap.size w w' := by
  have HX := Bx.new w 29 (jobL T n c r (.slice a m d) (.slice a' k d'))
  have c0 := HX.cell 0 rfl; have c1 := HX.cell 1 rfl; have c14 := HX.cell 14 rfl; have c15 := HX.cell 15 rfl
  have HB := Lib.hid (up_alloc (Below.refl w.heap.size w) (.cells (jobL T n c r (.slice a m d) (.slice a' k d')).toArray 29))
  have HA := Lib.hid (hT.up HB.out)
  have HN := Lib.hid hk; have HZ := Lib.hid hz
  have hk6 : k ≤ 6 := by simp only [decide_eq_false_iff_not] at h2; omega
  clear HX hT hk hz
  generalize n 0 = p at *
  generalize (jobL T n c r (.slice a m d) (.slice a' k d')).toArray = cs at *
  go_enter Tryz.func8, Tryz.ntmps8
  cases b4 <;> cases b5 <;> first | (exact absurd h (by decide)) | skip
  all_goals
    clear h
    go_wp2
    obtain ⟨w1, hw1⟩ : ∃ w1, w.alloc (.cells cs 29) = w1 := ⟨_, rfl⟩
    rw [hw1] at c0 c1 c14 c15 HB HA ⊢
    clear hw1 h1 h2 h3 h4 h5 c0 c1 c14
    go_loopw [3] (fun i wr => ∃ j : Nat, j ≤ k ∧ i = .int .i64 (j : Int) ∧ Hid (∀ x ∈ ls.take j, x.length ≤ 60) ∧ wr = w1) (fun i _ => k - (intOf i).toNat)
    case atStart => exact ⟨0, by omega, by go_num, Lib.hid (by simp), rfl⟩
    case round =>
      obtain ⟨j, hj, rfl, H60, hwr⟩ := hrel
      obtain rfl : w1 = wr := hwr.symm
      clear hwr
      by_cases hlt : j < k
      · obtain ⟨x, hx⟩ : ∃ x, ls[j]? = some x := ⟨ls[j]'(by rw [HN.out]; exact hlt), List.getElem?_eq_getElem _⟩
        obtain ⟨g, o, rfl, hc, -, -⟩ := HA.out.resolve_left (by rintro rfl; cases hx)
        have hcx := hc j x hx
        have hxz := HZ.out x (List.mem_of_getElem? hx)
        have z0 : (0 : Int) ≤ (j : Int) := by omega
        have z3 : (j : Int) < (k : Int) := by omega
        have htk := take_next hx
        obtain ⟨X, hX⟩ : ∃ X, tx x = X := ⟨_, rfl⟩
        have hXs : X.size = x.length := by rw [← hX, tx_size]
        rw [hX] at hcx
        unfold maxLen at hxz
        by_cases h60 : 60 < X.size
        · have z4 : (60 : Int) < (X.size : Int) := by omega
          clear hx hc htk hX
          go_wp2
          go_ret
          exact ⟨false, rfl, fun h => (nomatch h), HB.out⟩
        · have z4 : decide ((60 : Int) < (X.size : Int)) = false := by simp; omega
          have H61 := Lib.hid (show ∀ y ∈ ls.take (j + 1), y.length ≤ 60 by
            rw [htk]
            intro y hy
            rcases List.mem_append.1 hy with h | h
            · exact H60.out y h
            · obtain rfl := List.mem_singleton.1 h; omega)
          clear hx hc htk hX
          go_wp2
          go_roundw
          case rel => exact ⟨j + 1, by omega, by go_num, H61, by trivial⟩
          case measure => simp [intOf]; omega
      · obtain rfl : j = k := by omega
        have hall : ls.take j = ls := List.take_of_length_le (by rw [HN.out]; omega)
        have hz60 := H60.out
        rw [hall] at hz60
        have HH := Lib.hid hz60
        clear hall hz60
        go_wp2
        go_ret
        exact ⟨true, rfl, fun _ => HH.out, HB.out⟩

/-- What Light answers; where it is true, the job is small. -/
theorem refLight_any (cs : List Value) (j : Jb) (w : World) (h : JobA w cs j) (ht : j.t.length ≤ maxLen) (hz : ∀ x ∈ j.ls, x.length ≤ maxLen) :
    Calls Tryz.prog 8 #[.agg cs.toArray] w fun e w' => ∃ b, e = .returned (.bool b) ∧ (b = true → SmallJ j) ∧ Below w.heap.size w w' := by
  obtain ⟨a, d, a', d', rfl, h1, h2⟩ := h
  by_cases hs : (decide ((100 : Int) < ((tx j.t).size : Int)) || decide ((6 : Int) < (j.ls.length : Int)) || decide ((10 : Int) < (j.f.l.length : Int)) || (decide ((300 : Int) < j.n 0) && decide (j.n 0 ≤ 100000))) = true
  · exact (light_out _ _ _ _ _ _ _ _ _ _ _ _ _ _ _ w rfl rfl rfl rfl rfl hs).mono fun e w' ⟨he, hb⟩ => ⟨false, he, fun h => (by cases h), hb⟩
  · simp only [Bool.or_eq_true, not_or, Bool.not_eq_true] at hs
    obtain ⟨⟨⟨s1, s2⟩, s3⟩, s4⟩ := hs
    refine (light_in _ _ _ _ _ _ _ _ _ _ j.ls _ _ w rfl h2 hz s1 s2 s3 rfl rfl s4).mono ?_
    rintro e w' ⟨b, he, hh, hb⟩
    refine ⟨b, he, fun h => ⟨?_, ?_, ?_, ?_, hh h⟩, hb⟩
    · rw [tx_size] at s1; simp only [decide_eq_false_iff_not] at s1; omega
    · simp only [decide_eq_false_iff_not] at s2; omega
    · simp only [decide_eq_false_iff_not] at s3; omega
    · simp only [Bool.and_eq_false_iff, decide_eq_false_iff_not] at s4; omega
end Go.Proofs.YtbfigaadbfggcaaGreatDoor
