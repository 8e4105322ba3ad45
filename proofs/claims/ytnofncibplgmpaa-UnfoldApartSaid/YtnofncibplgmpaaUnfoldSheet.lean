/- A sheet of piles, told by what lies at each place: what unfold.flat answers, and what unfold.after makes of one. -/
import Derived.Test.YtnofncibplgmpaaUnfoldAfter
import Derived.Test.YtnofncibplgmpaaUnfoldMath
namespace Go.Proofs.Ytnofncibplgmpaa
open Go.RowKit
set_option linter.unusedVariables false

/-- A sheet: at each place a pile, each in memory of its own. -/
def Sheet (w : World) (base G : Nat) (c r : Int) (P : Int → Int → List Pc) : Prop :=
  ∃ (A : Nat) (L : List Ptr) (bk : Nat → Nat) (R : Nat → Nat) (S : Nat → List Pc), Gs w G A c r L ∧ (∀ k, k < L.length → L[k]? = some (ptrD (bk k))) ∧ (∀ i j, i < L.length → j < L.length → bk i = bk j → i = j) ∧ Decks w base (fun D => ∃ k, k < L.length ∧ D = bk k) R S ∧ ∀ x y, (0 ≤ x ∧ x < c) → (0 ≤ y ∧ y < r) → S (bk (y * c + x).toNat) = P x y
theorem Sheet.up {w w' : World} {base G : Nat} {c r : Int} {P : Int → Int → List Pc} (h : Sheet w base G c r P) (hb : Below w.heap.size w w') : Sheet w' base G c r P := by
  obtain ⟨A, L, bk, R, S, h1, h2, h3, h4, h5⟩ := h
  exact ⟨A, L, bk, R, S, h1.up hb, h2, h3, h4.up hb, h5⟩
theorem Sheet.sides {w : World} {base G : Nat} {c r : Int} {P : Int → Int → List Pc} (h : Sheet w base G c r P) : (1 ≤ c ∧ c ≤ 64) ∧ 1 ≤ r ∧ r ≤ 64 := by
  obtain ⟨A, L, bk, R, S, h1, _⟩ := h
  exact ⟨⟨h1.c1, h1.c64⟩, h1.r1, h1.r64⟩
theorem Sheet.piles {w : World} {base G : Nat} {c r : Int} {P Q : Int → Int → List Pc} (h : Sheet w base G c r P) (hq : ∀ x y, (0 ≤ x ∧ x < c) → (0 ≤ y ∧ y < r) → P x y = Q x y) : Sheet w base G c r Q := by
  obtain ⟨A, L, bk, R, S, h1, h2, h3, h4, h5⟩ := h
  exact ⟨A, L, bk, R, S, h1, h2, h3, h4, fun x y hx hy => (h5 x y hx hy).trans (hq x y hx hy)⟩

theorem idx_lt {c r x y : Int} (hx : 0 ≤ x ∧ x < c) (hy : 0 ≤ y ∧ y < r) : 0 ≤ y * c + x ∧ y * c + x < c * r := place_lt (by omega) hx.1 hx.2 hy.1 hy.2
theorem idx_inj {c x y x' y' : Int} (hx : 0 ≤ x ∧ x < c) (hy : 0 ≤ y) (hx' : 0 ≤ x' ∧ x' < c) (hy' : 0 ≤ y') (h : (y * c + x).toNat = (y' * c + x').toNat) : x = x' ∧ y = y' := by
  have h0 : 0 ≤ y * c := Int.mul_nonneg hy (by omega)
  have h1 : 0 ≤ y' * c := Int.mul_nonneg hy' (by omega)
  have h : y * c + x = y' * c + x' := by omega
  obtain ⟨a1, a2⟩ := td y x c hy hx.1 hx.2
  obtain ⟨b1, b2⟩ := td y' x' c hy' hx'.1 hx'.2
  rw [h] at a1 a2
  exact ⟨a2.symm.trans b2, a1.symm.trans b1⟩

theorem sheet_flat {w w' : World} {c r : Int} {e : Ending} (h : FlatP w c r e w') : ∃ G, e = .returned (.pointer (some ⟨G, 0, none⟩)) ∧ Sheet w' w.heap.size G c r (fun x y => [⟨y * c + x, false, false⟩]) ∧ Below w.heap.size w w' := by
  obtain ⟨G, A, ds, R, S, rfl, h1, h2, h3, h4, h5, _, _, h6⟩ := h
  have hk : ∀ k, k < (ds.map ptrD).length → ds[k]? = some (ds[k]?.getD 0) := fun k hk => by
    rw [List.length_map] at hk
    rw [List.getElem?_eq_getElem hk]
    rfl
  refine ⟨G, rfl, ⟨A, ds.map ptrD, fun k => ds[k]?.getD 0, R, S, h5, fun k hk' => ?_, fun i j hi hj hij => ?_, h3.sub ?_, fun x y hx hy => ?_⟩, h6⟩
  · rw [List.getElem?_map, hk k hk']
    rfl
  · have e1 := hk i hi
    simp only at hij
    rw [hij] at e1
    rw [List.length_map] at hi hj
    rw [List.getElem?_eq_getElem hi, List.getElem?_eq_getElem hj, Option.some.injEq] at e1
    have e : ds[i] = ds[j] := e1
    rw [List.nodup_iff_pairwise_ne, List.pairwise_iff_getElem] at h2
    rcases Nat.lt_trichotomy i j with h | h | h
    · exact absurd e (h2 i j hi hj h)
    · exact h
    · exact absurd e.symm (h2 j i hj hi h)
  · rintro D ⟨k, hk', rfl⟩
    exact List.mem_of_getElem? (hk k hk')
  · have hl := idx_lt hx hy
    have hlt : (y * c + x).toNat < (ds.map ptrD).length := by rw [List.length_map]; omega
    rw [h4 _ _ (hk _ hlt)]
    congr 2
    omega

/-- How a fold parts a sheet, in numbers. -/
structure CutOk (K : Cut) (d n c r : Int) : Prop where
  f1 : 0 ≤ K.fx ∧ 1 ≤ K.fc ∧ K.fx + K.fc ≤ c
  f2 : 0 ≤ K.fy ∧ 1 ≤ K.fr ∧ K.fy + K.fr ≤ r
  r1 : 0 ≤ K.rx ∧ 1 ≤ K.rc ∧ K.rx + K.rc ≤ c
  r2 : 0 ≤ K.ry ∧ 1 ≤ K.rr ∧ K.ry + K.rr ≤ r
  x1 : 0 ≤ K.x ∧ K.x + K.fc ≤ K.rc
  y1 : 0 ≤ K.y ∧ K.y + K.fr ≤ K.rr
  apart : (K.fx + K.fc ≤ K.rx ∨ K.rx + K.rc ≤ K.fx) ∨ K.fy + K.fr ≤ K.ry ∨ K.ry + K.rr ≤ K.fy
  new : K.rc = newC d n c ∧ K.rr = newR d n r
  back : ∀ X Y, backX d n X = K.rx + X ∧ backY d n Y = K.ry + Y
def flapX (up : Bool) (K : Cut) (px : Int) : Int := if up = true then K.fx + K.fc - 1 - px else K.fx + px
def flapY (up : Bool) (K : Cut) (py : Int) : Int := if up = true then K.fy + py else K.fy + K.fr - 1 - py
theorem cut_ok {d n c r : Int} (h : Can d n c r) : CutOk (cutOf d n c r) d n c r := by
  have n1 := h.n1; have c1 := h.c1; have r1 := h.r1
  rcases h.cases with ⟨rfl, e⟩ | ⟨rfl, e⟩ | ⟨rfl, e⟩ | ⟨rfl, e⟩
  all_goals
    simp only [cutOf, if_true, if_false, show (2 : Int) = 1 ↔ False by decide, show (3 : Int) = 1 ↔ False by decide, show (3 : Int) = 2 ↔ False by decide, show (4 : Int) = 1 ↔ False by decide, show (4 : Int) = 2 ↔ False by decide, show (4 : Int) = 3 ↔ False by decide]
    refine ⟨?_, ?_, ?_, ?_, ?_, ?_, ?_, ?_, fun X Y => ?_⟩
    all_goals
      simp [newC, newR, backX, backY]
      try omega
theorem cut_refl {d n c r : Int} (h : Can d n c r) {X Y : Int} (hX : 0 ≤ X ∧ X < newC d n c) (hY : 0 ≤ Y ∧ Y < newR d n r) :
    (((cutOf d n c r).x ≤ X ∧ X < (cutOf d n c r).x + (cutOf d n c r).fc) ∧ (cutOf d n c r).y ≤ Y ∧ Y < (cutOf d n c r).y + (cutOf d n c r).fr ↔ (0 ≤ reflX d n c (backX d n X) ∧ reflX d n c (backX d n X) < c) ∧ 0 ≤ reflY d n r (backY d n Y) ∧ reflY d n r (backY d n Y) < r) ∧
      flapX (upM d) (cutOf d n c r) (X - (cutOf d n c r).x) = reflX d n c (backX d n X) ∧ flapY (upM d) (cutOf d n c r) (Y - (cutOf d n c r).y) = reflY d n r (backY d n Y) := by
  have n1 := h.n1; have c1 := h.c1; have r1 := h.r1
  rcases h.cases with ⟨rfl, e⟩ | ⟨rfl, e⟩ | ⟨rfl, e⟩ | ⟨rfl, e⟩
  all_goals
    simp [newC, newR] at hX hY
    simp [cutOf, reflX, reflY, backX, backY, flapX, flapY, upM]
    omega

/-- Each pile of the flap comes upon one of the rest; no other one changes. -/
theorem runS_upto {m : Nat} {under up : Bool} {tb hb : Ix m → Nat} {S : Nat → List Pc} (hap : ∀ k j, tb k ≠ hb j) (ht : ∀ k j, tb k = tb j → k = j) (hh : ∀ k j, hb k = hb j → k = j) : ∀ n, n ≤ m →
    (∀ k : Ix m, runS under up tb hb (ixs m n) S (hb k) = if k.1 < n then joinU under (S (hb k)) ((S (tb k)).reverse.map (flipP up)) else S (hb k)) ∧ (∀ k : Ix m, n ≤ k.1 → runS under up tb hb (ixs m n) S (tb k) = S (tb k)) ∧ ∀ D, (∀ k, D ≠ tb k) → (∀ k, D ≠ hb k) → runS under up tb hb (ixs m n) S D = S D := by
  intro n
  induction n with
  | zero => intro _; exact ⟨fun k => by simp [ixs, runS], fun k _ => rfl, fun D _ _ => rfl⟩
  | succ n ih =>
    intro hn
    obtain ⟨h1, h2, h3⟩ := ih (by omega)
    rw [ixs_succ (by omega), runS_snoc]
    generalize runS under up tb hb (ixs m n) S = S' at *
    have hk0 : ∀ k : Ix m, k.1 ≠ n → k ≠ ⟨n, by omega⟩ := fun k h e => h (by rw [e])
    have e0 := h1 ⟨n, by omega⟩
    rw [if_neg (Nat.lt_irrefl n)] at e0
    refine ⟨fun k => ?_, fun k hk => ?_, fun D hD1 hD2 => ?_⟩
    · by_cases e : k.1 = n
      · obtain ⟨k, hk⟩ := k
        simp only at e
        subst e
        rw [if_pos (Nat.lt_succ_self k)]
        unfold stepS
        rw [putS_at, e0, h2 ⟨k, hk⟩ (Nat.le_refl k)]
        rfl
      · rw [stepS_far (fun e' => hap _ _ e'.symm) (fun e' => hk0 k e (hh _ _ e')), h1 k]
        by_cases e2 : k.1 < n
        · rw [if_pos e2, if_pos (by omega)]
        · rw [if_neg e2, if_neg (by omega)]
    · have e : k.1 ≠ n := by omega
      rw [stepS_far (fun e' => hk0 k e (ht _ _ e')) (hap _ _)]
      exact h2 k (by omega)
    · rw [stepS_far (hD1 _) (hD2 _)]
      exact h3 D hD1 hD2

theorem wantPs_at {c col row pc pr : Int} {l : List Ptr} {x y : Int} (hx : 0 ≤ x ∧ x < pc) (hy : 0 ≤ y ∧ y < pr) : (wantPs c col row pc pr l)[(y * pc + x).toNat]? = some (l[((row + y) * c + col + x).toNat]?.getD none) := by
  have hl := idx_lt hx hy
  obtain ⟨t1, t2⟩ := td y x pc hy.1 hx.1 hx.2
  unfold wantPs
  rw [List.getElem?_map, List.getElem?_range (by omega)]
  simp only [Option.map_some, srcP]
  rw [show (((y * pc + x).toNat : Nat) : Int) = y * pc + x by omega, t1, t2]
theorem wantMs_at {up : Bool} {c r : Int} {l : List Ptr} {x y : Int} (hx : 0 ≤ x ∧ x < c) (hy : 0 ≤ y ∧ y < r) : (wantMs up c r l)[(y * c + x).toNat]? = some (l[((if up = true then y else r - 1 - y) * c + (if up = true then c - 1 - x else x)).toNat]?.getD none) := by
  have hl := idx_lt hx hy
  obtain ⟨t1, t2⟩ := td y x c hy.1 hx.1 hx.2
  unfold wantMs
  rw [List.getElem?_map, List.getElem?_range (by omega)]
  simp only [Option.map_some, srcM]
  rw [show (((y * c + x).toNat : Nat) : Int) = y * c + x by omega, t1, t2]
  cases up <;> simp
theorem flap_at {up : Bool} {K : Cut} {d n c r : Int} (hK : CutOk K d n c r) {L : List Ptr} {bk : Nat → Nat} (hl : (L.length : Int) = c * r) (hb : ∀ k, k < L.length → L[k]? = some (ptrD (bk k))) {x y : Int} (hx : 0 ≤ x ∧ x < K.fc) (hy : 0 ≤ y ∧ y < K.fr) :
    (wantMs up K.fc K.fr (wantPs c K.fx K.fy K.fc K.fr L))[(y * K.fc + x).toNat]? = some (ptrD (bk (flapY up K y * c + flapX up K x).toNat)) := by
  have h1 := hK.f1; have h2 := hK.f2
  rw [wantMs_at hx hy]
  have hx' : 0 ≤ (if up = true then K.fc - 1 - x else x) ∧ (if up = true then K.fc - 1 - x else x) < K.fc := by split <;> omega
  have hy' : 0 ≤ (if up = true then y else K.fr - 1 - y) ∧ (if up = true then y else K.fr - 1 - y) < K.fr := by split <;> omega
  rw [wantPs_at hx' hy']
  have hi := idx_lt (c := c) (r := r) (x := K.fx + (if up = true then K.fc - 1 - x else x)) (y := K.fy + (if up = true then y else K.fr - 1 - y)) (by omega) (by omega)
  rw [Int.add_assoc, hb _ (by omega)]
  simp only [Option.getD_some]
  congr 4
  cases up
  · simp only [flapX, flapY, Bool.false_eq_true, if_false]
    congr 2
    omega
  · simp only [flapX, flapY, if_true]
    omega
theorem rest_at {K : Cut} {d n c r : Int} (hK : CutOk K d n c r) {L : List Ptr} {bk : Nat → Nat} (hl : (L.length : Int) = c * r) (hb : ∀ k, k < L.length → L[k]? = some (ptrD (bk k))) {x y : Int} (hx : 0 ≤ x ∧ x < K.rc) (hy : 0 ≤ y ∧ y < K.rr) :
    (wantPs c K.rx K.ry K.rc K.rr L)[(y * K.rc + x).toNat]? = some (ptrD (bk ((K.ry + y) * c + (K.rx + x)).toNat)) := by
  have h1 := hK.r1; have h2 := hK.r2
  rw [wantPs_at hx hy]
  have hi := idx_lt (c := c) (r := r) (x := K.rx + x) (y := K.ry + y) (by omega) (by omega)
  rw [Int.add_assoc, hb _ (by omega)]
  rfl

theorem parted_any {w : World} {G A : Nat} {c r : Int} {L : List Ptr} (h : Gs w G A c r L) {d n : Int} (u : Bool) (hc : Can d n c r) :
    Calls Try.prog 36 #[.pointer (some ⟨G, 0, none⟩), .agg #[.int .i64 d, .int .i64 n, .bool u]] w (PartedP w c L (cutOf d n c r)) := by
  rcases hc.cases with ⟨rfl, e⟩ | ⟨rfl, e⟩ | ⟨rfl, e⟩ | ⟨rfl, e⟩
  · exact parted_left h n u hc.n1 e
  · exact parted_right h n u hc.n1 e
  · exact parted_foot h n u hc.n1 e
  · exact parted_head h n u hc.n1 e

set_option maxHeartbeats 2000000 in
theorem sheet_after {w : World} {base G : Nat} {c r : Int} {P : Int → Int → List Pc} (h : Sheet w base G c r P) {d n : Int} (hc : Can d n c r) (u : Bool) (hlen : ∀ x y, (0 ≤ x ∧ x < c) → (0 ≤ y ∧ y < r) → (P x y).length ≤ 64) (hbase : base ≤ w.heap.size) :
    Calls Try.prog 22 #[.pointer (some ⟨G, 0, none⟩), .agg #[.int .i64 d, .int .i64 n, .bool u]] w fun e w' => ∃ G', e = .returned (.pointer (some ⟨G', 0, none⟩)) ∧ Sheet w' base G' (newC d n c) (newR d n r) (foldPl d n u c r P) ∧ Below base w w' := by
  obtain ⟨A, L, bk, R, S, hG, hL, hinj, hD, hP⟩ := h
  have hl := hG.len
  have hc64 := hG.c64; have hr64 := hG.r64
  have hK := cut_ok hc
  have href := fun {X Y : Int} => cut_refl (X := X) (Y := Y) hc
  have KP := fun (w' : World) (hb : Below w.heap.size w w') => parted_any (hG.up hb) u hc
  have hnew := hK.new
  have hbk := hK.back
  obtain ⟨K, hKd⟩ : ∃ K, cutOf d n c r = K := ⟨_, rfl⟩
  rw [hKd] at hK KP hnew hbk
  simp only [hKd] at href
  obtain ⟨up, hup⟩ : ∃ up, upM d = up := ⟨_, rfl⟩
  rw [hup] at href
  have f1 := hK.f1; have f2 := hK.f2; have r1 := hK.r1; have r2 := hK.r2; have x1 := hK.x1; have y1 := hK.y1; have hap := hK.apart
  obtain ⟨F, hF⟩ : ∃ F, wantMs up K.fc K.fr (wantPs c K.fx K.fy K.fc K.fr L) = F := ⟨_, rfl⟩
  obtain ⟨LQ, hQ⟩ : ∃ LQ, wantPs c K.rx K.ry K.rc K.rr L = LQ := ⟨_, rfl⟩
  have hfl : F.length = (K.fc * K.fr).toNat := by rw [← hF, wantMs_length]
  have hql : LQ.length = (K.rc * K.rr).toNat := by rw [← hQ, wantPs_length]
  have hfp : 0 ≤ K.fc * K.fr := Int.mul_nonneg (by omega) (by omega)
  have hqp : 0 ≤ K.rc * K.rr := Int.mul_nonneg (by omega) (by omega)
  -- the places of the flap, and those where they come
  have hplace : ∀ k : Ix F.length, ∃ x y : Int, (k.1 : Int).tmod K.fc = x ∧ (k.1 : Int).tdiv K.fc = y ∧ (0 ≤ x ∧ x < K.fc) ∧ (0 ≤ y ∧ y < K.fr) ∧ y * K.fc + x = k.1 := fun k => by
    obtain ⟨x, y, e1, e2, b0, b1, b2, b3, b4⟩ := split_place k.1 K.fc K.fr (by omega) (by have := k.2; omega)
    exact ⟨x, y, e1, e2, ⟨b0, b1⟩, ⟨b2, b3⟩, b4⟩
  have hfx : ∀ {x : Int}, (0 ≤ x ∧ x < K.fc) → K.fx ≤ flapX up K x ∧ flapX up K x < K.fx + K.fc := fun hx => by unfold flapX; split <;> omega
  have hfy : ∀ {y : Int}, (0 ≤ y ∧ y < K.fr) → K.fy ≤ flapY up K y ∧ flapY up K y < K.fy + K.fr := fun hy => by unfold flapY; split <;> omega
  have hfxi : ∀ {x x' : Int}, flapX up K x = flapX up K x' → x = x' := fun h => by unfold flapX at h; split at h <;> omega
  have hfyi : ∀ {y y' : Int}, flapY up K y = flapY up K y' → y = y' := fun h => by unfold flapY at h; split at h <;> omega
  have hin : ∀ {x y x' y' : Int}, (0 ≤ x ∧ x < c) → (0 ≤ y ∧ y < r) → (0 ≤ x' ∧ x' < c) → (0 ≤ y' ∧ y' < r) → bk (y * c + x).toNat = bk (y' * c + x').toNat → x = x' ∧ y = y' := fun hx hy hx' hy' e => by
    have i1 := idx_lt hx hy
    have i2 := idx_lt hx' hy'
    exact idx_inj hx hy.1 hx' hy'.1 (hinj _ _ (by omega) (by omega) e)
  have hM : ∀ {x y : Int}, (0 ≤ x ∧ x < c) → (0 ≤ y ∧ y < r) → ∃ k, k < L.length ∧ bk (y * c + x).toNat = bk k := fun hx hy => ⟨_, by have := idx_lt hx hy; omega, rfl⟩
  obtain ⟨tb, htb⟩ : ∃ tb : Ix F.length → Nat, tb = fun k => bk (flapY up K ((k.1 : Int).tdiv K.fc) * c + flapX up K ((k.1 : Int).tmod K.fc)).toNat := ⟨_, rfl⟩
  obtain ⟨hb, hhb⟩ : ∃ hb : Ix F.length → Nat, hb = fun k => bk ((K.ry + (K.y + (k.1 : Int).tdiv K.fc)) * c + (K.rx + (K.x + (k.1 : Int).tmod K.fc))).toNat := ⟨_, rfl⟩
  have hT : ∀ k : Ix F.length, F[k.1]'k.2 = ptrD (tb k) ∧ ∃ j, j < L.length ∧ tb k = bk j := fun k => by
    obtain ⟨x, y, e1, e2, hx, hy, e3⟩ := hplace k
    have hf := flap_at (up := up) hK hl hL hx hy
    rw [hF, e3, Int.toNat_natCast, List.getElem?_eq_getElem k.2, Option.some.injEq] at hf
    have g1 := hfx hx; have g2 := hfy hy
    rw [htb]
    simp only [e1, e2]
    exact ⟨hf, hM (by omega) (by omega)⟩
  have hH : ∀ k : Ix F.length, hasB K.rc K.rr (K.x + (k.1 : Int).tmod K.fc) (K.y + (k.1 : Int).tdiv K.fc) = true ∧ LQ[at1 K.rc (K.x + (k.1 : Int).tmod K.fc) (K.y + (k.1 : Int).tdiv K.fc)]? = some (ptrD (hb k)) ∧ ∃ j, j < L.length ∧ hb k = bk j := fun k => by
    obtain ⟨x, y, e1, e2, hx, hy, e3⟩ := hplace k
    rw [hhb]
    simp only [e1, e2]
    refine ⟨by simp [hasB]; omega, ?_, hM (by omega) (by omega)⟩
    rw [← hQ]
    exact rest_at hK hl hL (by omega) (by omega)
  have hpart : ∀ k j, tb k ≠ hb j := fun k j e => by
    obtain ⟨x, y, e1, e2, hx, hy, e3⟩ := hplace k
    obtain ⟨x', y', e1', e2', hx', hy', e3'⟩ := hplace j
    have g1 := hfx hx; have g2 := hfy hy
    rw [htb, hhb] at e
    simp only [e1, e2, e1', e2'] at e
    obtain ⟨q1, q2⟩ := hin (by omega) (by omega) (by omega) (by omega) e
    omega
  have hti : ∀ k j, tb k = tb j → k = j := fun k j e => by
    obtain ⟨x, y, e1, e2, hx, hy, e3⟩ := hplace k
    obtain ⟨x', y', e1', e2', hx', hy', e3'⟩ := hplace j
    have g1 := hfx hx; have g2 := hfy hy; have g3 := hfx hx'; have g4 := hfy hy'
    rw [htb] at e
    simp only [e1, e2, e1', e2'] at e
    obtain ⟨q1, q2⟩ := hin (by omega) (by omega) (by omega) (by omega) e
    obtain rfl := hfxi q1
    obtain rfl := hfyi q2
    exact Subtype.ext (by omega)
  have hhi : ∀ k j, hb k = hb j → k = j := fun k j e => by
    obtain ⟨x, y, e1, e2, hx, hy, e3⟩ := hplace k
    obtain ⟨x', y', e1', e2', hx', hy', e3'⟩ := hplace j
    rw [hhb] at e
    simp only [e1, e2, e1', e2'] at e
    obtain ⟨q1, q2⟩ := hin (by omega) (by omega) (by omega) (by omega) e
    obtain rfl : x = x' := by omega
    obtain rfl : y = y' := by omega
    exact Subtype.ext (by omega)
  have hSl : ∀ D, (∃ k, k < L.length ∧ D = bk k) → (S D).length ≤ 64 := by
    rintro D ⟨k, hk, rfl⟩
    obtain ⟨x, y, e1, e2, b0, b1, b2, b3, b4⟩ := split_place k c r hc.c1 (by omega)
    have := hP x y ⟨b0, b1⟩ ⟨b2, b3⟩
    rw [b4, Int.toNat_natCast] at this
    rw [this]
    exact hlen x y ⟨b0, b1⟩ ⟨b2, b3⟩
  have K1 : Calls Try.prog 22 #[.pointer (some ⟨G, 0, none⟩), .agg #[.int .i64 d, .int .i64 n, .bool u]] w fun e w' => ∃ Q QA R', e = .returned (.pointer (some ⟨Q, 0, none⟩)) ∧ Gs w' Q QA K.rc K.rr LQ ∧ Decks w' base (fun D => ∃ k, k < L.length ∧ D = bk k) R' (runS u up tb hb (ixs F.length F.length) S) ∧ w.heap.size ≤ Q ∧ w.heap.size ≤ QA ∧ Below base w w' := by
    by_cases hd : d = 1
    · subst hd
      obtain rfl : up = true := by rw [← hup]; rfl
      exact after_one n u K F LQ tb hb KP hF hQ hD hbase hT (by omega) hH hpart hSl
    · exact after_more d n u up K F LQ tb hb (by simpa using hd) (by rw [← hup, Bool.eq_iff_iff]; simp [upM, hd]) KP hF hQ hD hbase hT (by omega) hH hpart hSl
  refine K1.mono ?_
  rintro e w' ⟨Q, QA, R', rfl, hGQ, hD', _, _, hb'⟩
  refine ⟨Q, rfl, ?_, hb'⟩
  rw [← hnew.1, ← hnew.2]
  obtain ⟨u1, u2, u3⟩ := runS_upto (under := u) (up := up) (S := S) hpart hti hhi F.length (Nat.le_refl _)
  have hq : ∀ k, k < LQ.length → ∃ x y : Int, (k : Int).tmod K.rc = x ∧ (k : Int).tdiv K.rc = y ∧ (0 ≤ x ∧ x < K.rc) ∧ (0 ≤ y ∧ y < K.rr) ∧ y * K.rc + x = k := fun k hk => by
    obtain ⟨x, y, e1, e2, b0, b1, b2, b3, b4⟩ := split_place k K.rc K.rr (by omega) (by omega)
    exact ⟨x, y, e1, e2, ⟨b0, b1⟩, ⟨b2, b3⟩, b4⟩
  refine ⟨QA, LQ, fun k => bk ((K.ry + (k : Int).tdiv K.rc) * c + (K.rx + (k : Int).tmod K.rc)).toNat, R', _, hGQ, fun k hk => ?_, fun i j hi hj e => ?_, hD'.sub ?_, fun X Y hX hY => ?_⟩
  · obtain ⟨x, y, e1, e2, hx, hy, e3⟩ := hq k hk
    have hr := rest_at hK hl hL hx hy
    rw [hQ, e3, Int.toNat_natCast] at hr
    simp only [e1, e2]
    exact hr
  · obtain ⟨x, y, e1, e2, hx, hy, e3⟩ := hq i hi
    obtain ⟨x', y', e1', e2', hx', hy', e3'⟩ := hq j hj
    simp only [e1, e2, e1', e2'] at e
    obtain ⟨q1, q2⟩ := hin (by omega) (by omega) (by omega) (by omega) e
    obtain rfl : x = x' := by omega
    obtain rfl : y = y' := by omega
    omega
  · rintro D ⟨k, hk, rfl⟩
    obtain ⟨x, y, e1, e2, hx, hy, e3⟩ := hq k hk
    simp only [e1, e2]
    exact hM (by omega) (by omega)
  · have hi := idx_lt hX hY
    obtain ⟨t1, t2⟩ := td Y X K.rc hY.1 hX.1 hX.2
    have ecast : (((Y * K.rc + X).toNat : Nat) : Int) = Y * K.rc + X := by omega
    simp only [ecast, t1, t2]
    obtain ⟨c1, c2, c3⟩ := href (by rw [← hnew.1]; exact hX) (by rw [← hnew.2]; exact hY)
    have hP0 := hP (K.rx + X) (K.ry + Y) (by omega) (by omega)
    obtain ⟨k1, k2⟩ := hbk X Y
    unfold foldPl
    rw [← c2, ← c3] at c1
    rw [hup, ← c2, ← c3, k1, k2]
    by_cases hin2 : (K.x ≤ X ∧ X < K.x + K.fc) ∧ K.y ≤ Y ∧ Y < K.y + K.fr
    · rw [if_pos (c1.1 hin2)]
      have hkl := idx_lt (c := K.fc) (r := K.fr) (x := X - K.x) (y := Y - K.y) (by omega) (by omega)
      obtain ⟨s1, s2⟩ := td (Y - K.y) (X - K.x) K.fc (by omega) (by omega) (by omega)
      have hkn : ((Y - K.y) * K.fc + (X - K.x)).toNat < F.length := by omega
      have hu := u1 ⟨_, hkn⟩
      rw [if_pos hkn] at hu
      have ek : ((((Y - K.y) * K.fc + (X - K.x)).toNat : Nat) : Int) = (Y - K.y) * K.fc + (X - K.x) := by omega
      have eh : hb ⟨_, hkn⟩ = bk ((K.ry + Y) * c + (K.rx + X)).toNat := by
        rw [hhb]
        simp only [ek, s1, s2]
        rw [show K.y + (Y - K.y) = Y by omega, show K.x + (X - K.x) = X by omega]
      have et : tb ⟨_, hkn⟩ = bk (flapY up K (Y - K.y) * c + flapX up K (X - K.x)).toNat := by
        rw [htb]
        simp only [ek, s1, s2]
      rw [eh, et] at hu
      have g1 := hfx (x := X - K.x) (by omega); have g2 := hfy (y := Y - K.y) (by omega)
      rw [hu, hP0, hP (flapX up K (X - K.x)) (flapY up K (Y - K.y)) (by omega) (by omega)]
    · rw [if_neg (fun h => hin2 (c1.2 h)), ← hP0]
      refine u3 _ (fun k e => ?_) (fun k e => ?_)
      · obtain ⟨x, y, e1, e2, hx, hy, e3⟩ := hplace k
        have g1 := hfx hx; have g2 := hfy hy
        rw [htb] at e
        simp only [e1, e2] at e
        obtain ⟨q1, q2⟩ := hin (by omega) (by omega) (by omega) (by omega) e
        omega
      · obtain ⟨x, y, e1, e2, hx, hy, e3⟩ := hplace k
        rw [hhb] at e
        simp only [e1, e2] at e
        obtain ⟨q1, q2⟩ := hin (by omega) (by omega) (by omega) (by omega) e
        exact hin2 ⟨by omega, by omega⟩
end Go.Proofs.Ytnofncibplgmpaa
