/- What the laws' own calls answer: small, laid, cells and is. -/
import Derived.Test.YtlbklfanphkacaaGridCode
import Derived.BigRegion
import Derived.Deep.RegionHeld3
namespace Go.Proofs.Ytlbklfanphkacaa
open Go.RowKit
set_option linter.unusedVariables false

/-- A number, laid somewhere: its column, its row, itself. -/
structure Pu where
  c : Int
  r : Int
  n : Int
/-- The puts that came in: a slice at a (nil, or a row of cells). -/
def Puts (w : World) (a : Option Addr) (l : List Pu) : Prop := l = [] ∨ ∃ b off, a = some ⟨b, off, none⟩ ∧ ∀ j p, l[j]? = some p → w.cell? ⟨b, off + j * 3, none⟩ = some (.int .i64 p.c) ∧ w.cell? ⟨b, off + j * 3 + 1, none⟩ = some (.int .i64 p.r) ∧ w.cell? ⟨b, off + j * 3 + 2, none⟩ = some (.int .i64 p.n)
theorem Puts.up {w w' : World} {a : Option Addr} {l : List Pu} (h : Puts w a l) (hb : Below w.heap.size w w') : Puts w' a l := by
  rcases h with h | ⟨b, off, e, h⟩
  · exact .inl h
  · exact .inr ⟨b, off, e, fun j p hp => ⟨bl_cell hb (h j p hp).1, bl_cell hb (h j p hp).2.1, bl_cell hb (h j p hp).2.2⟩⟩
/-- What all puts come to. -/
def putsL (c r : Int) (l : List Pu) : List Int := l.foldl (fun L p => setL c r L p.c p.r p.n) (List.replicate (c * r).toNat 0)
theorem putsL_take (c r : Int) (l : List Pu) (k : Nat) (p : Pu) (h : l[k]? = some p) : putsL c r (l.take (k + 1)) = setL c r (putsL c r (l.take k)) p.c p.r p.n := by
  unfold putsL
  rw [List.take_add_one, h]
  simp
theorem setL_length (c r : Int) (L : List Int) (x y n : Int) : (setL c r L x y n).length = L.length := by unfold setL; split <;> simp
theorem putsL_length (c r : Int) (l : List Pu) : (putsL c r l).length = (c * r).toNat := by
  unfold putsL
  have : ∀ (L : List Int), (l.foldl (fun L p => setL c r L p.c p.r p.n) L).length = L.length := by
    induction l with
    | nil => intro L; rfl
    | cons p l ih => intro L; rw [List.foldl_cons, ih, setL_length]
  rw [this]
  simp
theorem has_in (c r x y : Int) : (inB x 0 (c - 1) && inB y 0 (r - 1)) = hasB c r x y := by
  rw [Bool.eq_iff_iff]
  simp [inB, hasB]
  omega

/-- Are sides small, and puts few? -/
def smB (c r : Int) (n : Nat) : Bool := inB c 1 12 && (inB r 1 12 && decide (n ≤ 60))
theorem small_any (c r : Int) (a : Option Addr) (n cap : Nat) (w : World) :
    Calls Try.prog 8 #[.int .i64 c, .int .i64 r, .slice a n cap] w fun e w' => e = .returned (.bool (smB c r n)) ∧ w' = w := by
  have KC := fun w => refIn_any c 1 12 w
  have KR := fun w => refIn_any r 1 12 w
  unfold smB
  generalize inB c 1 12 = x at *
  generalize inB r 1 12 = y at *
  have HC := Lib.hid KC; have HR := Lib.hid KR
  clear KC KR
  have e : decide ((n : Int) ≤ 60) = decide (n ≤ 60) := by by_cases h : n ≤ 60 <;> simp [h] <;> omega
  generalize decide (n ≤ 60) = z at *
  cases x
  · go_enter Try.func8, Try.ntmps8
    go_wp2_with (go_at_call 10; refine (HC.out _).mono ?_; rintro e w' ⟨rfl, rfl⟩)
    go_ret
    exact ⟨rfl, rfl⟩
  · cases y
    · go_enter Try.func8, Try.ntmps8
      go_wp2_with (go_at_call 10; first | (with_reducible refine (HC.out _).mono ?_; rintro e w' ⟨rfl, rfl⟩) | (with_reducible refine (HR.out _).mono ?_; rintro e w' ⟨rfl, rfl⟩))
      go_ret
      exact ⟨rfl, rfl⟩
    · go_enter Try.func8, Try.ntmps8
      go_wp2_with (go_at_call 10; first | (with_reducible refine (HC.out _).mono ?_; rintro e w' ⟨rfl, rfl⟩) | (with_reducible refine (HR.out _).mono ?_; rintro e w' ⟨rfl, rfl⟩))
      go_ret
      exact ⟨by simp, rfl⟩

/-- As far as k puts, the grid has what they come to. -/
def LaidRel (G A : Nat) (c r : Int) (l : List Pu) (w : World) (i : Value) (wr : World) : Prop := ∃ k : Nat, k ≤ l.length ∧ i = .int .i64 (k : Int) ∧ Gd wr G A c r (putsL c r (l.take k)) ∧ Below w.heap.size w wr

set_option maxHeartbeats 2000000 in
theorem laid_any (c r : Int) (a : Option Addr) (cap : Nat) (l : List Pu) (w : World) (hc : inB c 1 64 = true) (hr : inB r 1 64 = true) (hl : l.length ≤ 1000) (hp : Puts w a l) :
    Calls Try.prog 11 #[.int .i64 c, .int .i64 r, .slice a l.length cap] w fun e w' => ∃ G A, e = .returned (.tuple #[.pointer (some ⟨G, 0, none⟩), .bool true]) ∧ Gd w' G A c r (putsL c r l) ∧ w.heap.size ≤ G ∧ w.heap.size ≤ A ∧ Below w.heap.size w w' := by
  have KN := fun w => new_yes c r hc hr w
  have HN := Lib.hid KN; have HP := Lib.hid hp
  have bc : 1 ≤ c ∧ c ≤ 64 := by simpa [inB] using hc
  have br : 1 ≤ r ∧ r ≤ 64 := by simpa [inB] using hr
  obtain ⟨bc1, bc2⟩ := bc
  obtain ⟨br1, br2⟩ := br
  clear KN hp hc hr
  obtain ⟨n, hn⟩ : ∃ n, l.length = n := ⟨_, rfl⟩
  have HL := Lib.hid hn
  rw [hn] at hl ⊢
  clear hn
  go_enter Try.func11, Try.ntmps11
  go_wp2_with (go_at_call 9; refine (HN.out _).mono ?_; rintro e w1 ⟨rfl, hg, hb⟩; have HG := Lib.hid hg; have HB := Lib.hid hb; clear hg hb)
  go_loopw [9] (fun i wr => LaidRel (w.heap.size + 1) w.heap.size c r l w i wr) (fun i _ => n - (intOf i).toNat)
  case atStart => exact ⟨0, by omega, by go_num, HG.out, HB.out⟩
  case round =>
    obtain ⟨k, hk, rfl, hg, hb⟩ := hrel
    rw [HL.out] at hk
    by_cases hlt : k < n
    · obtain ⟨p, hp⟩ : ∃ p, l[k]? = some p := ⟨l[k]'(by rw [HL.out]; exact hlt), List.getElem?_eq_getElem _⟩
      obtain h | ⟨b, off, rfl, hcl⟩ := HP.out.up hb
      · rw [h] at hp; simp at hp
      obtain ⟨c0, c1, c2⟩ := hcl k p hp
      have hs := putsL_take c r l k p hp
      obtain ⟨px, py, pn⟩ := p
      simp only at c0 c1 c2 hs
      have KX := fun w => refIn_any px 0 (c - 1) w
      have KY := fun w => refIn_any py 0 (r - 1) w
      have KS := fun (w' : World) (h : Below wr.heap.size wr w') => set_any (hg.up h) px py pn
      have hxy := has_in c r px py
      generalize putsL c r (l.take k) = L at *
      generalize setL c r L px py pn = L' at *
      generalize hasB c r px py = H at *
      generalize inB px 0 (c - 1) = X at *
      generalize inB py 0 (r - 1) = Y at *
      have z0 : (0 : Int) ≤ (k : Int) := by omega
      have z1 : (k : Int) < (n : Int) := by omega
      have HX := Lib.hid KX; have HY := Lib.hid KY; have HS := Lib.hid KS; have HB2 := Lib.hid hb; have HT := Lib.hid hs
      clear KX KY KS hb hs hcl hp hg HN
      have hbA : b < w.heap.size := by
        obtain h | ⟨b', off', e, hcl⟩ := HP.out
        · rw [h] at HL; have := HL.out; simp at this; omega
        · obtain ⟨p, hp⟩ : ∃ p, l[k]? = some p := ⟨l[k]'(by rw [HL.out]; exact hlt), List.getElem?_eq_getElem _⟩
          cases e
          exact World.block_lt_of_cell? w _ (hcl k p hp).1
      have KK : ∀ w2, wr.drew.grownBy w2 (some w.heap.size) → w2.cell? ⟨b, off + k * 3, none⟩ = some (.int .i64 px) ∧ w2.cell? ⟨b, off + k * 3 + 1, none⟩ = some (.int .i64 py) ∧ w2.cell? ⟨b, off + k * 3 + 2, none⟩ = some (.int .i64 pn) :=
        fun w2 h => ⟨h.cell c0 (by simp; omega), h.cell c1 (by simp; omega), h.cell c2 (by simp; omega)⟩
      have HKK := Lib.hid KK
      clear KK HP
      cases X
      · simp at hxy
        subst hxy
        go_wp2_with (go_at_call 10; refine (HX.out _).mono ?_; rintro e w' ⟨rfl, rfl⟩)
        go_region_held3 (fun w2 => w2.cell? ⟨b, off + k * 3, none⟩ = some (.int .i64 px) ∧ w2.cell? ⟨b, off + k * 3 + 1, none⟩ = some (.int .i64 py) ∧ w2.cell? ⟨b, off + k * 3 + 2, none⟩ = some (.int .i64 pn))
          (first | exact ⟨c0, c1, c2⟩ | exact HKK.out _ hgr)
          ((go_at_call 17; refine (HS.out _ (up_drew (Below.refl _ _))).mono ?_; rintro e w2 ⟨rfl, hg2, hgr⟩))
        have HG2 := Lib.hid hg2; have HR2 := Lib.hid hgr
        clear hg2 hgr c0 c1 c2
        go_wp2
        go_roundw
        case rel => exact ⟨k + 1, by rw [HL.out]; omega, by go_num, by rw [HT.out]; exact HG2.out, HB2.out.drew.grown HR2.out HB2.out.size (fun j e => by cases e; exact Nat.le_refl _)⟩
        case measure => simp [intOf]; omega
      · simp at hxy
        subst hxy
        go_wp2_with (go_at_call 10; first | (with_reducible refine (HX.out _).mono ?_; rintro e w' ⟨rfl, rfl⟩) | (with_reducible refine (HY.out _).mono ?_; rintro e w' ⟨rfl, rfl⟩))
        go_region_held3 (fun w2 => w2.cell? ⟨b, off + k * 3, none⟩ = some (.int .i64 px) ∧ w2.cell? ⟨b, off + k * 3 + 1, none⟩ = some (.int .i64 py) ∧ w2.cell? ⟨b, off + k * 3 + 2, none⟩ = some (.int .i64 pn))
          (first | exact ⟨c0, c1, c2⟩ | exact HKK.out _ hgr)
          ((go_at_call 17; refine (HS.out _ (up_drew (Below.refl _ _))).mono ?_; rintro e w2 ⟨rfl, hg2, hgr⟩))
        have HG2 := Lib.hid hg2; have HR2 := Lib.hid hgr
        clear hg2 hgr c0 c1 c2
        go_wp2
        go_roundw
        case rel => exact ⟨k + 1, by rw [HL.out]; omega, by go_num, by rw [HT.out]; exact HG2.out, HB2.out.drew.grown HR2.out HB2.out.size (fun j e => by cases e; exact Nat.le_refl _)⟩
        case measure => simp [intOf]; omega
    · have hk2 : n ≤ k := by omega
      rw [List.take_of_length_le (by rw [HL.out]; exact hk2)] at hg
      have HG2 := Lib.hid hg; have HB2 := Lib.hid hb
      clear hg hb
      go_wp2
      exact bodyPost_ret (v := .tuple #[.pointer (some ⟨w.heap.size + 1, 0, none⟩), .bool true]) (by simp [results, Try.results11, go_sem]) rfl ⟨_, _, rfl, HG2.out, by omega, Nat.le_refl _, HB2.out⟩

def CellsRel (B : Nat) (c r : Int) (l : List Pu) (w : World) (i : Value) (wr : World) : Prop := ∃ k : Nat, k ≤ l.length ∧ i = .int .i64 (k : Int) ∧ Bx wr B (enc (putsL c r (l.take k))) ∧ Below w.heap.size w wr

set_option maxHeartbeats 2000000 in
theorem cells_any (c r : Int) (a : Option Addr) (cap : Nat) (l : List Pu) (w : World) (hc : inB c 1 64 = true) (hr : inB r 1 64 = true) (hl : l.length ≤ 1000) (hp : Puts w a l) :
    Calls Try.prog 13 #[.int .i64 c, .int .i64 r, .slice a l.length cap] w fun e w' => e = .returned (.slice (some ⟨w.heap.size, 0, none⟩) (c * r).toNat (c * r).toNat) ∧ Bx w' w.heap.size (enc (putsL c r l)) ∧ Below w.heap.size w w' := by
  obtain ⟨i0, hi, hz0, hz1, hz2⟩ := info_parts Try.infoInt
  have HP := Lib.hid hp
  have bc : 1 ≤ c ∧ c ≤ 64 := by simpa [inB] using hc
  have br : 1 ≤ r ∧ r ≤ 64 := by simpa [inB] using hr
  obtain ⟨bc1, bc2⟩ := bc
  obtain ⟨br1, br2⟩ := br
  have h1 : 0 < c * r := Int.mul_pos (by omega) (by omega)
  have h2 : c * r ≤ 64 * 64 := Int.mul_le_mul bc2 br2 (by omega) (by omega)
  clear hp hc hr
  obtain ⟨m, hm⟩ : ∃ m : Nat, c * r = (m : Int) := ⟨(c * r).toNat, by omega⟩
  have HM := Lib.hid hm
  rw [hm] at h1 h2 ⊢
  have wn : IntKind.i64.wrap (c * r) = (m : Int) := by rw [hm]; exact IntWalk.i64_in _ (by omega)
  have mk : ∀ w : World, (Instr.makeSlice 31 (.int .i64 (m : Int)) (.int .i64 (m : Int))).run Try.prog w = .ok (.slice (some ⟨w.heap.size, 0, none⟩) m m) (w.alloc (.cells (enc (List.replicate m 0)).toArray 3)) := by
    intro w
    have := run_make (P := Try.prog) w 31 3 i0 (.int .i64 0) Try.underlying31 hi hz0 .i64 .i64 (m : Int) (m : Int) (by omega) (Int.le_refl _) (by rw [hz2]; omega) (by omega)
    rw [hz1, Int.toNat_natCast, Nat.mul_one, made_enc] at this
    exact this
  clear hm hi hz0 hz1 hz2
  obtain ⟨n, hn⟩ : ∃ n, l.length = n := ⟨_, rfl⟩
  have HL := Lib.hid hn
  rw [hn] at hl ⊢
  clear hn
  go_enter Try.func13, Try.ntmps13
  go_wp2
  have hn0 := Bx.new w 3 (enc (List.replicate m 0))
  have hup : Below w.heap.size w (w.alloc (.cells (enc (List.replicate m 0)).toArray 3)) := up_alloc (Below.refl _ _) _
  generalize w.alloc (.cells (enc (List.replicate m 0)).toArray 3) = w1 at *
  have HN0 := Lib.hid hn0; have HU := Lib.hid hup
  clear hn0 hup mk wn
  go_loopw [8] (fun i wr => CellsRel w.heap.size c r l w i wr) (fun i _ => n - (intOf i).toNat)
  case atStart =>
    refine ⟨0, by omega, by go_num, ?_, HU.out⟩
    have e : putsL c r (l.take 0) = List.replicate m 0 := by simp [putsL, HM.out]
    rw [e]
    exact HN0.out
  case round =>
    obtain ⟨k, hk, rfl, hg, hb⟩ := hrel
    rw [HL.out] at hk
    by_cases hlt : k < n
    · obtain ⟨p, hp⟩ : ∃ p, l[k]? = some p := ⟨l[k]'(by rw [HL.out]; exact hlt), List.getElem?_eq_getElem _⟩
      obtain h | ⟨b, off, rfl, hcl⟩ := HP.out.up hb
      · rw [h] at hp; simp at hp
      obtain ⟨c0, c1, c2⟩ := hcl k p hp
      have hs := putsL_take c r l k p hp
      have hlen := putsL_length c r (l.take k)
      rw [HM.out, Int.toNat_natCast] at hlen
      obtain ⟨px, py, pn⟩ := p
      simp only at c0 c1 c2 hs
      have KX := fun w => refIn_any px 0 (c - 1) w
      have KY := fun w => refIn_any py 0 (r - 1) w
      have hxy := has_in c r px py
      have hat : hasB c r px py = true → 0 ≤ py * c + px ∧ py * c + px < c * r ∧ 0 ≤ py * c ∧ 0 ≤ px := fun h => by
        have h1 := at1_lt h
        refine ⟨h1.1, h1.2.1, h1.2.2, ?_⟩
        simp [hasB] at h
        omega
      unfold setL at hs
      generalize putsL c r (l.take k) = L at *
      generalize hasB c r px py = H at *
      generalize inB px 0 (c - 1) = X at *
      generalize inB py 0 (r - 1) = Y at *
      have z0 : (0 : Int) ≤ (k : Int) := by omega
      have z1 : (k : Int) < (n : Int) := by omega
      have HX := Lib.hid KX; have HY := Lib.hid KY; have HB2 := Lib.hid hb; have HT := Lib.hid hs; have HG := Lib.hid hg; have HA := Lib.hid hat
      clear KX KY hb hs hcl hp hg hat HP
      cases X
      · simp at hxy
        subst hxy
        go_wp2_with (go_at_call 10; refine (HX.out _).mono ?_; rintro e w' ⟨rfl, rfl⟩)
        go_roundw
        case rel => exact ⟨k + 1, by rw [HL.out]; omega, by go_num, by rw [HT.out]; exact HG.out, HB2.out⟩
        case measure => simp [intOf]; omega
      · cases Y
        · simp at hxy
          subst hxy
          go_wp2_with (go_at_call 10; first | (with_reducible refine (HX.out _).mono ?_; rintro e w' ⟨rfl, rfl⟩) | (with_reducible refine (HY.out _).mono ?_; rintro e w' ⟨rfl, rfl⟩))
          go_roundw
          case rel => exact ⟨k + 1, by rw [HL.out]; omega, by go_num, by rw [HT.out]; exact HG.out, HB2.out⟩
          case measure => simp [intOf]; omega
        · simp at hxy
          subst hxy
          obtain ⟨g0, g1, g2, g3⟩ := HA.out rfl
          rw [HM.out] at g1
          have ht : putsL c r (l.take (k + 1)) = L.set (at1 c px py) pn := HT.out
          unfold at1 at ht
          obtain ⟨q, hq⟩ : ∃ q, py * c = q := ⟨_, rfl⟩
          rw [hq] at g0 g1 g2 ht
          obtain ⟨t, hts⟩ : ∃ t : Nat, q + px = (t : Int) := ⟨(q + px).toNat, by omega⟩
          have w0 : IntKind.i64.wrap (py * c) = q := by rw [hq]; exact IntWalk.i64_in _ (by omega)
          rw [hts, Int.toNat_natCast] at ht
          rw [hts] at g1
          have w2 : IntKind.i64.wrap (q + px) = (t : Int) := by rw [hts]; exact IntWalk.i64_in _ (by omega)
          have y0 : (0 : Int) ≤ (t : Int) := by omega
          have y1 : (t : Int) < (m : Int) := by omega
          have hcell := HG.out.cell t (v := .int .i64 (L[t]'(by omega))) (by simp [enc, List.getElem?_eq_getElem (show t < L.length by omega)])
          generalize L[t]'(by omega) = y at hcell
          have hfr := HG.out.free t
          have hlt3 : w.heap.size < wr.heap.size := World.block_lt_of_cell? wr _ hcell
          have HT2 := Lib.hid ht
          clear ht HT g0 g2 g3 hq hts HA
          go_wp2_with (go_at_call 10; first | (with_reducible refine (HX.out _).mono ?_; rintro e w' ⟨rfl, rfl⟩) | (with_reducible refine (HY.out _).mono ?_; rintro e w' ⟨rfl, rfl⟩))
          have jc0 := fun u : Later w' => u.cell c0; have jc1 := fun u : Later w' => u.cell c1; have jc2 := fun u : Later w' => u.cell c2
          have jh := fun u : Later w' => u.cell hcell
          have jf := fun u : Later w' => (kept_marks u.up _ t hlt3).trans hfr
          clear c0 c1 c2 hcell hfr
          refine later_start (w := w') ?_
          intro u
          refine wp_region_later_tail 20 (by kernel_rfl) (by kernel_rfl) ?_
          simp only [List.take_succ_cons, List.take_zero, List.drop_succ_cons, List.drop_zero]
          repeat (go_big_quiet_step (fail))
          refine wpQuiet_nil ?_
          rintro _ ⟨u2, rfl⟩
          have x0 := jh u2
          have x1 := jf u2
          clear jc0 jc1 jc2 jh jf
          go_wp2
          go_roundw
          case rel => exact ⟨k + 1, by rw [HL.out]; omega, by go_num, by rw [HT2.out]; exact HG.out.stored u2.up (by omega) t pn, up_set (up_trans HB2.out u2.up) (Nat.le_refl _) _⟩
          case measure => simp [intOf]; omega
    · have hk2 : n ≤ k := by omega
      rw [List.take_of_length_le (by rw [HL.out]; exact hk2)] at hg
      have HG2 := Lib.hid hg; have HB2 := Lib.hid hb
      clear hg hb
      go_wp2
      go_ret
      exact ⟨by simp, HG2.out, HB2.out⟩
end Go.Proofs.Ytlbklfanphkacaa
