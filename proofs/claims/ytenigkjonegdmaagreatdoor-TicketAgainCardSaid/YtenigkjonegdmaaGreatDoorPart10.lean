/- Part 10 of the texts that the proofs of this seat share: TicketTake4, TicketTake5, TicketFind, TicketMet, TicketRead, TicketRead1, TicketRead2. -/
import Derived.Test.YtenigkjonegdmaaGreatDoorPart9
import Derived.Test.YtenigkjonegdmaaGreatDoorPart1
import Derived.Test.YtenigkjonegdmaaGreatDoorPart2
import Derived.Maps.OwnSet
import Derived.StringKeys
import Derived.Test.YtenigkjonegdmaaGreatDoorPart7
/- What ticket's take answers, of each key. -/
namespace Go.Proofs.YtenigkjonegdmaaGreatDoor
open Go.RowKit
set_option linter.unusedVariables false
set_option linter.unusedSimpArgs false

/-- The boxes of a job, of a key, of a result that is a job, just made. -/
theorem three_jobs (cs ks : List Value) (w : World) (hl : cs.length = 33) (hk : 0 < ks.length) : Bx (((w.alloc (.cells cs.toArray 29)).alloc (.cells ks.toArray 51)).alloc (.cells zeroL.toArray 29)) w.heap.size cs ∧ Bx (((w.alloc (.cells cs.toArray 29)).alloc (.cells ks.toArray 51)).alloc (.cells zeroL.toArray 29)) (w.heap.size + 1) ks ∧ Bx (((w.alloc (.cells cs.toArray 29)).alloc (.cells ks.toArray 51)).alloc (.cells zeroL.toArray 29)) (w.heap.size + 2) zeroL ∧ Below w.heap.size w (((w.alloc (.cells cs.toArray 29)).alloc (.cells ks.toArray 51)).alloc (.cells zeroL.toArray 29)) := by
  have h1 := (Bx.new w 29 cs).later (by rw [hl]; decide) (up_alloc (Below.refl _ _) (.cells ks.toArray 51))
  have h2 := Bx.new (w.alloc (.cells cs.toArray 29)) 51 ks
  have h3 := Bx.new ((w.alloc (.cells cs.toArray 29)).alloc (.cells ks.toArray 51)) 29 zeroL
  rw [World.size_alloc] at h2
  rw [World.size_alloc, World.size_alloc] at h3
  exact ⟨h1.later (by rw [hl]; decide) (up_alloc (Below.refl _ _) _), h2.later hk (up_alloc (Below.refl _ _) _), h3, up_alloc (up_alloc (up_alloc (Below.refl w.heap.size w) _) _) _⟩

theorem take_end {G : Nat → Prop} {w w4 : World} {ds : List Value} {j : Jb} {B n : Nat} (hB : w.heap.size ≤ B) (hn : B < n) (hJ : JobG (fun b => (G b ∧ b < w.heap.size) ∨ n ≤ b) w4 ds j) : JobG (fun b => G b ∨ w.heap.size ≤ b) (w4.setCells B 0 ds) ds j :=
  (hJ.keep (B := B) (by omega) (keep_sets _ B 0 ds)).mono fun b h => by
    rcases h with h | h
    · exact .inl h.1
    · exact .inr (by omega)

set_option maxHeartbeats 1000000 in
theorem take_bad (G : Nat → Prop) (cs : List Value) (W : ByteArray) (kd f lo hi : Int) (a : Option Addr) (n c : Nat) (w : World) (hl : cs.length = 33) (hn : (decide (lo ≤ (n : Int)) && decide ((n : Int) ≤ hi)) = false) :
    Calls Tryz.prog 55 #[.agg cs.toArray, .agg #[.string W, .int .i64 kd, .int .i64 f, .int .i64 lo, .int .i64 hi], .slice a n c] w (GivesJ G (1, zeroJ) w) := by
  obtain ⟨-, hK, hR, hB⟩ := three_jobs cs [.string W, .int .i64 kd, .int .i64 f, .int .i64 lo, .int .i64 hi] w hl (by simp)
  have KI := fun w => in_any (n : Int) lo hi w
  rw [hn] at KI
  have HI := Lib.hid KI
  have k3 := hK.cell 3 rfl; have k4 := hK.cell 4 rfl
  have HR := Lib.hid hR; have HB := Lib.hid hB
  obtain ⟨w2, hw2⟩ : ∃ w2, ((w.alloc (.cells cs.toArray 29)).alloc (.cells #[.string W, .int .i64 kd, .int .i64 f, .int .i64 lo, .int .i64 hi] 51)).alloc (.cells zeroL.toArray 29) = w2 := ⟨_, rfl⟩
  rw [hw2] at k3 k4 HR HB
  have HW := Lib.hid hw2
  clear hK hR hB KI hw2 hn
  go_enter Tryz.func55, Tryz.ntmps55
  go_wp2_with (refine wpList_alloc_to rfl 29 rfl _ _ (job_alloc _) ?_; simp only [Act.put, HW.out, World.size_alloc, List.setIfInBounds_toArray, List.set_cons_succ, List.set_cons_zero])
  refine (HI.out _).mono ?_
  rintro e w3 ⟨rfl, rfl⟩
  go_wp2_with (first
    | (refine wpList_zero_job rfl rfl ?_; simp only [Act.put, List.setIfInBounds_toArray, List.set_cons_succ, List.set_cons_zero])
    | (refine wpList_store_job rfl _ _ rfl (w.heap.size + 2) rfl zeroL zeroL rfl HR.out rfl rfl zeroL_one ?_; simp only [Act.put]))
  have HS := HR.out.sets (ws := zeroL) rfl
  exact end_job (r := (1, zeroJ)) Tryz.results55 zeroL _ (by rfl) (by rfl) (by rfl) HS zeroL_job (below_setCells (by omega) _ _ _ HB.out)

set_option maxHeartbeats 2000000 in
set_option maxRecDepth 100000 in
theorem take_title (G : Nat → Prop) (cs : List Value) (j : Jb) (W : ByteArray) (f : Int) (g o c : Nat) (p : List UInt8) (w : World) (h : JobG G w cs j) (hc : w.cell? ⟨g, o, none⟩ = some (.string (tx p))) (hp : p.length ≤ 999999) :
    Calls Tryz.prog 55 #[.agg cs.toArray, .agg #[.string W, .int .i64 0, .int .i64 f, .int .i64 1, .int .i64 1], .slice (some ⟨g, o, none⟩) 1 c] w (GivesJ G (titleM p j) w) := by
  obtain ⟨hX, hK, hR, hB⟩ := three_jobs cs [.string W, .int .i64 0, .int .i64 f, .int .i64 1, .int .i64 1] w h.length (by simp)
  have HL := Lib.hid h.length
  have HI := Lib.hid (fun w => in_any 1 1 1 w)
  have k1 := hK.cell 1 rfl; have k3 := hK.cell 3 rfl; have k4 := hK.cell 4 rfl
  have hlt : g < w.heap.size := World.block_lt_of_cell? w _ hc
  have c0 := bl_cell hB hc
  have hJ := h.old.up hB
  have HC := Lib.hid (fun w1 (h1 : JobG (fun b => G b ∧ b < w.heap.size) w1 cs j) => takeTitle_any _ cs j p w1 h1 hp)
  have HX := Lib.hid hX; have HR := Lib.hid hR; have HB := Lib.hid hB; have HJ := Lib.hid hJ
  obtain ⟨P, hP⟩ : ∃ P, tx p = P := ⟨_, rfl⟩
  rw [hP] at c0 HC
  obtain ⟨R, hRR⟩ : ∃ R, titleM p j = R := ⟨_, rfl⟩
  rw [hRR] at HC ⊢
  obtain ⟨w2, hw2⟩ : ∃ w2, ((w.alloc (.cells cs.toArray 29)).alloc (.cells #[.string W, .int .i64 0, .int .i64 f, .int .i64 1, .int .i64 1] 51)).alloc (.cells zeroL.toArray 29) = w2 := ⟨_, rfl⟩
  rw [hw2] at k1 k3 k4 c0 HX HR HB HJ
  have HW := Lib.hid hw2
  clear hX hK hR hB hJ hP hRR hw2 h hc hp
  go_enter Tryz.func55, Tryz.ntmps55
  go_wp2_with (refine wpList_alloc_to rfl 29 rfl _ _ (job_alloc _) ?_; simp only [Act.put, HW.out, World.size_alloc, List.setIfInBounds_toArray, List.set_cons_succ, List.set_cons_zero])
  refine (HI.out _).mono ?_
  rintro e w3 ⟨rfl, rfl⟩
  go_wp2_with fail
  clear k1 k3 k4
  refine wp_region_calls_b (w.heap.size + 2) [([0, 1, 2, 3], 4), ([5, 6], 7)] [8] (by kernel_rfl) (by kernel_rfl) rfl (fun _ _ d _ _ h => by cases d <;> exact h) ?_
  refine walkC_take _ rfl (fun K0 hK0 => ?_)
  simp only [List.map_cons, List.map_nil, List.getD_cons_zero, List.getD_cons_succ]
  have RG := Lib.hid (laterB_range (R := w.heap.size + 2) HX.out (by omega))
  have j0 := fun u : LaterB (w.heap.size + 2) w2 => u.cell (by simp only; omega) c0
  repeat (first
    | (go_big_quiet_want; refine quiet_load_job _ rfl w.heap.size rfl cs HL.out RG.out ?_; simp only [Act.put, List.setIfInBounds_toArray, List.set_cons_succ, List.set_cons_zero]; go_big_quiet_on)
    | go_big_quiet_step (fail))
  refine wpQuiet_nil (hK0.out _ (fun K hK => ?_))
  go_simp
  refine (HC.out _ (HJ.out.up (up_drew (Below.refl _ _)))).mono ?_
  rintro e w4 ⟨ds, rfl, hJ4, hb⟩
  have hb2 := up_trans (up_drew (Below.refl _ w2)) hb
  have C4 := Lib.hid (but_next (drew_but (w.heap.size + 2) (w.heap.size + 2) w2) hb)
  have HR4 := Lib.hid (HR.out.later (by decide) hb2); have HB4 := Lib.hid (up_trans HB.out hb2); have HJ4 := Lib.hid hJ4
  have hs2 : w.heap.size + 2 < w2.heap.size := HR.out.lowE (by decide)
  refine hK.out _ _ ⟨⟨w4, C4.out⟩, rfl⟩ ?_
  clear hK K hK0 K0 hb hb2 hJ4 j0
  try simp only [List.setIfInBounds_toArray, List.set_cons_zero, List.set_cons_succ]
  refine walkC_take _ rfl (fun K0 hK0 => ?_)
  simp only [List.map_cons, List.map_nil, List.getD_cons_zero, List.getD_cons_succ]
  repeat (go_big_quiet_step (fail))
  refine wpQuiet_nil (hK0.out _ (fun K hK => ?_))
  rw [if_pos (by rfl)]
  refine wp_store_job _ _ rfl (w.heap.size + 2) rfl zeroL ds rfl HR4.out rfl HJ4.out.length HJ4.out.one ?_
  refine hK.out _ _ ⟨⟨_, but_sets C4.out ds⟩, rfl⟩ ?_
  clear hK K hK0 K0
  simp only [Act.put, List.setIfInBounds_toArray, List.set_cons_zero, List.set_cons_succ]
  refine walkC_last (fun K0 hK0 => ?_)
  simp only [List.map_cons, List.map_nil, List.getD_cons_zero, List.getD_cons_succ]
  repeat (go_big_quiet_step (fail))
  refine wpQuiet_nil (hK0.out _ ?_)
  clear hK0 K0
  go_wp2
  have HS := HR4.out.sets (ws := ds) (by rw [HJ4.out.length]; rfl)
  exact end_job Tryz.results55 ds (w.heap.size + 2) (by rfl) (by rfl) (by rfl) HS (take_end (by omega) hs2 HJ4.out) (below_setCells (by omega) _ _ _ HB4.out)

set_option maxHeartbeats 2000000 in
set_option maxRecDepth 100000 in
theorem take_word (G : Nat → Prop) (cs : List Value) (j : Jb) (W : ByteArray) (i : Nat) (t kd : Int) (g o c : Nat) (p : List UInt8) (w : World) (h : JobG G w cs j) (hc : w.cell? ⟨g, o, none⟩ = some (.string (tx p))) (ht : (kd = 2 ∧ t = 1) ∨ (kd = 3 ∧ t = 2)) (hi : i < 28) (hl : j.f.l.length ≤ 1000000) (hls : j.ls.length ≤ 1000000) :
    Calls Tryz.prog 55 #[.agg cs.toArray, .agg #[.string W, .int .i64 kd, .int .i64 (i : Int), .int .i64 1, .int .i64 1], .slice (some ⟨g, o, none⟩) 1 c] w (GivesJ G (wordM t i p j) w) := by
  obtain ⟨hX, hK, hR, hB⟩ := three_jobs cs [.string W, .int .i64 kd, .int .i64 (i : Int), .int .i64 1, .int .i64 1] w h.length (by simp)
  have HL := Lib.hid h.length
  have HI := Lib.hid (fun w => in_any 1 1 1 w)
  have k1 := hK.cell 1 rfl; have k2 := hK.cell 2 rfl; have k3 := hK.cell 3 rfl; have k4 := hK.cell 4 rfl
  have hlt : g < w.heap.size := World.block_lt_of_cell? w _ hc
  have c0 := bl_cell hB hc
  have hJ := h.old.up hB
  have HC := Lib.hid (fun w1 (h1 : JobG (fun b => G b ∧ b < w.heap.size) w1 cs j) => takeWord_any _ cs j i t p w1 h1 (by rcases ht with ⟨-, h⟩ | ⟨-, h⟩; exact .inl h; exact .inr h) hi hl hls)
  have HX := Lib.hid hX; have HR := Lib.hid hR; have HB := Lib.hid hB; have HJ := Lib.hid hJ
  obtain ⟨P, hP⟩ : ∃ P, tx p = P := ⟨_, rfl⟩
  rw [hP] at c0 HC
  obtain ⟨R, hRR⟩ : ∃ R, wordM t i p j = R := ⟨_, rfl⟩
  rw [hRR] at HC ⊢
  generalize (i : Int) = ii at *
  obtain ⟨w2, hw2⟩ : ∃ w2, ((w.alloc (.cells cs.toArray 29)).alloc (.cells #[.string W, .int .i64 kd, .int .i64 ii, .int .i64 1, .int .i64 1] 51)).alloc (.cells zeroL.toArray 29) = w2 := ⟨_, rfl⟩
  rw [hw2] at k1 k2 k3 k4 c0 HX HR HB HJ
  have HW := Lib.hid hw2
  clear hX hK hR hB hJ hP hRR hw2 h hc hi hl hls
  rcases ht with ⟨rfl, rfl⟩ | ⟨rfl, rfl⟩
  all_goals
    go_enter Tryz.func55, Tryz.ntmps55
    go_wp2_with (refine wpList_alloc_to rfl 29 rfl _ _ (job_alloc _) ?_; simp only [Act.put, HW.out, World.size_alloc, List.setIfInBounds_toArray, List.set_cons_succ, List.set_cons_zero])
    refine (HI.out _).mono ?_
    rintro e w3 ⟨rfl, rfl⟩
    go_wp2_with fail
    clear k1 k3 k4
    refine wp_region_calls_b (w.heap.size + 2) [([0, 1, 2, 3, 4, 5], 6), ([7, 8], 9)] [10] (by kernel_rfl) (by kernel_rfl) rfl (fun _ _ d _ _ h => by cases d <;> exact h) ?_
    refine walkC_take _ rfl (fun K0 hK0 => ?_)
    simp only [List.map_cons, List.map_nil, List.getD_cons_zero, List.getD_cons_succ]
    have RG := Lib.hid (laterB_range (R := w.heap.size + 2) HX.out (by omega))
    have j0 := fun u : LaterB (w.heap.size + 2) w2 => u.cell (by simp only; omega) c0
    have j2 := fun u : LaterB (w.heap.size + 2) w2 => u.cell (by simp only; omega) k2
    clear c0 k2
    repeat (first
      | (go_big_quiet_want; refine quiet_load_job _ rfl w.heap.size rfl cs HL.out RG.out ?_; simp only [Act.put, List.setIfInBounds_toArray, List.set_cons_succ, List.set_cons_zero]; go_big_quiet_on)
      | go_big_quiet_step (fail))
    refine wpQuiet_nil (hK0.out _ (fun K hK => ?_))
    go_simp
    refine (HC.out _ (HJ.out.up (up_drew (Below.refl _ _)))).mono ?_
    rintro e w4 ⟨ds, rfl, hJ4, hb⟩
    have hb2 := up_trans (up_drew (Below.refl _ w2)) hb
    have C4 := Lib.hid (but_next (drew_but (w.heap.size + 2) (w.heap.size + 2) w2) hb)
    have HR4 := Lib.hid (HR.out.later (by decide) hb2); have HB4 := Lib.hid (up_trans HB.out hb2); have HJ4 := Lib.hid hJ4
    have hs2 : w.heap.size + 2 < w2.heap.size := HR.out.lowE (by decide)
    refine hK.out _ _ ⟨⟨w4, C4.out⟩, rfl⟩ ?_
    clear hK K hK0 K0 hb hb2 hJ4 j0 j2
    try simp only [List.setIfInBounds_toArray, List.set_cons_zero, List.set_cons_succ]
    refine walkC_take _ rfl (fun K0 hK0 => ?_)
    simp only [List.map_cons, List.map_nil, List.getD_cons_zero, List.getD_cons_succ]
    repeat (go_big_quiet_step (fail))
    refine wpQuiet_nil (hK0.out _ (fun K hK => ?_))
    rw [if_pos (by rfl)]
    refine wp_store_job _ _ rfl (w.heap.size + 2) rfl zeroL ds rfl HR4.out rfl HJ4.out.length HJ4.out.one ?_
    refine hK.out _ _ ⟨⟨_, but_sets C4.out ds⟩, rfl⟩ ?_
    clear hK K hK0 K0
    simp only [Act.put, List.setIfInBounds_toArray, List.set_cons_zero, List.set_cons_succ]
    refine walkC_last (fun K0 hK0 => ?_)
    simp only [List.map_cons, List.map_nil, List.getD_cons_zero, List.getD_cons_succ]
    repeat (go_big_quiet_step (fail))
    refine wpQuiet_nil (hK0.out _ ?_)
    clear hK0 K0
    go_wp2
    have HS := HR4.out.sets (ws := ds) (by rw [HJ4.out.length]; rfl)
    exact end_job Tryz.results55 ds (w.heap.size + 2) (by rfl) (by rfl) (by rfl) HS (take_end (by omega) hs2 HJ4.out) (below_setCells (by omega) _ _ _ HB4.out)
end Go.Proofs.YtenigkjonegdmaaGreatDoor
/- What ticket's take answers: of a scheme, of last names, of numbers; of any key. -/
namespace Go.Proofs.YtenigkjonegdmaaGreatDoor
open Go.RowKit
set_option linter.unusedVariables false
set_option linter.unusedSimpArgs false

set_option maxHeartbeats 1000000 in
set_option maxRecDepth 100000 in
theorem take_folds (G : Nat → Prop) (cs : List Value) (j : Jb) (W : ByteArray) (a : Option Addr) (c : Nat) (ls : List (List UInt8)) (w : World) (h : JobG G w cs j) (hT : TxA w a c ls) (hn : 1 ≤ ls.length ∧ ls.length ≤ 7) (hz : ∀ l ∈ ls, l.length ≤ 1000000) (hg : GoodM w) :
    Calls Tryz.prog 55 #[.agg cs.toArray, .agg #[.string W, .int .i64 4, .int .i64 0, .int .i64 1, .int .i64 7], .slice a ls.length c] w (GivesJ G (schemeM ls j) w) := by
  obtain ⟨hX, hK, hR, hB⟩ := three_jobs cs [.string W, .int .i64 4, .int .i64 0, .int .i64 1, .int .i64 7] w h.length (by simp)
  have HL := Lib.hid h.length
  have KI := fun w => in_any (ls.length : Int) 1 7 w
  rw [show (decide ((1 : Int) ≤ (ls.length : Int)) && decide ((ls.length : Int) ≤ 7)) = true by simp; omega] at KI
  have HI := Lib.hid KI
  have k1 := hK.cell 1 rfl; have k2 := hK.cell 2 rfl; have k3 := hK.cell 3 rfl; have k4 := hK.cell 4 rfl
  have hJ := h.old.up hB
  have HC := Lib.hid (takeScheme_any _ cs j a c ls _ hJ (hT.up hB) hz (hg.below hB))
  have HX := Lib.hid hX; have HR := Lib.hid hR; have HB := Lib.hid hB; have HJ := Lib.hid hJ
  obtain ⟨R, hRR⟩ : ∃ R, schemeM ls j = R := ⟨_, rfl⟩
  rw [hRR] at HC ⊢
  obtain ⟨N, hN⟩ : ∃ N, ls.length = N := ⟨_, rfl⟩
  rw [hN] at HC HI ⊢
  obtain ⟨w2, hw2⟩ : ∃ w2, ((w.alloc (.cells cs.toArray 29)).alloc (.cells #[.string W, .int .i64 4, .int .i64 0, .int .i64 1, .int .i64 7] 51)).alloc (.cells zeroL.toArray 29) = w2 := ⟨_, rfl⟩
  rw [hw2] at k1 k2 k3 k4 HX HR HB HJ HC
  have HW := Lib.hid hw2
  clear hX hK hR hB hJ hRR hw2 hN
  go_enter Tryz.func55, Tryz.ntmps55
  go_wp2_with (refine wpList_alloc_to rfl 29 rfl _ _ (job_alloc _) ?_; simp only [Act.put, HW.out, World.size_alloc, List.setIfInBounds_toArray, List.set_cons_succ, List.set_cons_zero])
  refine (HI.out _).mono ?_
  rintro e w3 ⟨rfl, rfl⟩
  go_wp2_with (refine wpList_load_job rfl _ rfl w.heap.size rfl cs HX.out HL.out ?_; simp only [Act.put, List.setIfInBounds_toArray, List.set_cons_succ, List.set_cons_zero])
  refine HC.out.mono ?_
  rintro e w4 ⟨ds, rfl, hJ4, hb⟩
  have HR4 := Lib.hid (HR.out.later (by decide) hb); have HB4 := Lib.hid (up_trans HB.out hb); have HJ4 := Lib.hid hJ4
  have hs2 : w.heap.size + 2 < w2.heap.size := HR.out.lowE (by decide)
  clear hb hJ4 k1 k2 k3 k4
  go_wp2_with (refine wpList_store_job rfl _ _ rfl (w.heap.size + 2) rfl zeroL ds rfl HR4.out rfl HJ4.out.length HJ4.out.one ?_; simp only [Act.put])
  have HS := HR4.out.sets (ws := ds) (by rw [HJ4.out.length]; rfl)
  exact end_job Tryz.results55 ds (w.heap.size + 2) (by rfl) (by rfl) (by rfl) HS (take_end (by omega) hs2 HJ4.out) (below_setCells (by omega) _ _ _ HB4.out)

set_option maxHeartbeats 1000000 in
set_option maxRecDepth 100000 in
theorem take_last (G : Nat → Prop) (cs : List Value) (j : Jb) (W : ByteArray) (a : Option Addr) (c : Nat) (ls : List (List UInt8)) (w : World) (h : JobG G w cs j) (hT : TxG G w a c ls) (hn : 1 ≤ ls.length ∧ ls.length ≤ 4) (hz : ∀ l ∈ ls, l.length ≤ 1000000) :
    Calls Tryz.prog 55 #[.agg cs.toArray, .agg #[.string W, .int .i64 5, .int .i64 0, .int .i64 1, .int .i64 4], .slice a ls.length c] w (GivesJ G (lastM ls j) w) := by
  obtain ⟨hX, hK, hR, hB⟩ := three_jobs cs [.string W, .int .i64 5, .int .i64 0, .int .i64 1, .int .i64 4] w h.length (by simp)
  have HL := Lib.hid h.length
  have KI := fun w => in_any (ls.length : Int) 1 4 w
  rw [show (decide ((1 : Int) ≤ (ls.length : Int)) && decide ((ls.length : Int) ≤ 4)) = true by simp; omega] at KI
  have HI := Lib.hid KI
  have k1 := hK.cell 1 rfl; have k2 := hK.cell 2 rfl; have k3 := hK.cell 3 rfl; have k4 := hK.cell 4 rfl
  have hJ := h.old.up hB
  have HC := Lib.hid (takeNames_any _ cs j a c ls _ hJ (hT.old.up hB) (fun l hl => Nat.le_trans (hz l hl) (by omega)) (by omega))
  have HX := Lib.hid hX; have HR := Lib.hid hR; have HB := Lib.hid hB; have HJ := Lib.hid hJ
  obtain ⟨R, hRR⟩ : ∃ R, lastM ls j = R := ⟨_, rfl⟩
  rw [hRR] at HC ⊢
  obtain ⟨N, hN⟩ : ∃ N, ls.length = N := ⟨_, rfl⟩
  rw [hN] at HC HI ⊢
  obtain ⟨w2, hw2⟩ : ∃ w2, ((w.alloc (.cells cs.toArray 29)).alloc (.cells #[.string W, .int .i64 5, .int .i64 0, .int .i64 1, .int .i64 4] 51)).alloc (.cells zeroL.toArray 29) = w2 := ⟨_, rfl⟩
  rw [hw2] at k1 k2 k3 k4 HX HR HB HJ HC
  have HW := Lib.hid hw2
  clear hX hK hR hB hJ hRR hw2 hN
  go_enter Tryz.func55, Tryz.ntmps55
  go_wp2_with (refine wpList_alloc_to rfl 29 rfl _ _ (job_alloc _) ?_; simp only [Act.put, HW.out, World.size_alloc, List.setIfInBounds_toArray, List.set_cons_succ, List.set_cons_zero])
  refine (HI.out _).mono ?_
  rintro e w3 ⟨rfl, rfl⟩
  go_wp2_with (refine wpList_load_job rfl _ rfl w.heap.size rfl cs HX.out HL.out ?_; simp only [Act.put, List.setIfInBounds_toArray, List.set_cons_succ, List.set_cons_zero])
  refine HC.out.mono ?_
  rintro e w4 ⟨ds, rfl, hJ4, hb⟩
  have HR4 := Lib.hid (HR.out.later (by decide) hb); have HB4 := Lib.hid (up_trans HB.out hb); have HJ4 := Lib.hid hJ4
  have hs2 : w.heap.size + 2 < w2.heap.size := HR.out.lowE (by decide)
  clear hb hJ4 k1 k2 k3 k4
  go_wp2_with (refine wpList_store_job rfl _ _ rfl (w.heap.size + 2) rfl zeroL ds rfl HR4.out rfl HJ4.out.length HJ4.out.one ?_; simp only [Act.put])
  have HS := HR4.out.sets (ws := ds) (by rw [HJ4.out.length]; rfl)
  exact end_job Tryz.results55 ds (w.heap.size + 2) (by rfl) (by rfl) (by rfl) HS (take_end (by omega) hs2 HJ4.out) (below_setCells (by omega) _ _ _ HB4.out)

set_option maxHeartbeats 1000000 in
set_option maxRecDepth 100000 in
theorem take_nums (G : Nat → Prop) (cs : List Value) (j : Jb) (W : ByteArray) (i : Nat) (a : Option Addr) (c : Nat) (ls : List (List UInt8)) (w : World) (h : JobG G w cs j) (hT : TxA w a c ls) (hi : i + ls.length ≤ 28) (hz : ∀ l ∈ ls, l.length ≤ 1000000) (hl : j.f.l.length ≤ 1000000) (hls : j.ls.length ≤ 1000000) (hg : GoodM w) :
    Calls Tryz.prog 55 #[.agg cs.toArray, .agg #[.string W, .int .i64 1, .int .i64 (i : Int), .int .i64 (ls.length : Int), .int .i64 (ls.length : Int)], .slice a ls.length c] w (GivesJ G (numbersM i ls j) w) := by
  obtain ⟨hX, hK, hR, hB⟩ := three_jobs cs [.string W, .int .i64 1, .int .i64 (i : Int), .int .i64 (ls.length : Int), .int .i64 (ls.length : Int)] w h.length (by simp)
  have HL := Lib.hid h.length
  have KI := fun w => in_any (ls.length : Int) (ls.length : Int) (ls.length : Int) w
  rw [show (decide ((ls.length : Int) ≤ (ls.length : Int)) && decide ((ls.length : Int) ≤ (ls.length : Int))) = true by simp] at KI
  have HI := Lib.hid KI
  have k1 := hK.cell 1 rfl; have k2 := hK.cell 2 rfl; have k3 := hK.cell 3 rfl; have k4 := hK.cell 4 rfl
  have hJ := h.old.up hB
  have HC := Lib.hid (takeNumbers_any _ cs j i a c ls _ hJ (hT.up hB) hz hi hl hls (hg.below hB))
  have HX := Lib.hid hX; have HR := Lib.hid hR; have HB := Lib.hid hB; have HJ := Lib.hid hJ
  obtain ⟨R, hRR⟩ : ∃ R, numbersM i ls j = R := ⟨_, rfl⟩
  rw [hRR] at HC ⊢
  obtain ⟨N, hN⟩ : ∃ N, ls.length = N := ⟨_, rfl⟩
  rw [hN] at HC HI k3 k4 k1 k2 HX HR HB HJ ⊢
  obtain ⟨w2, hw2⟩ : ∃ w2, ((w.alloc (.cells cs.toArray 29)).alloc (.cells #[.string W, .int .i64 1, .int .i64 (i : Int), .int .i64 (N : Int), .int .i64 (N : Int)] 51)).alloc (.cells zeroL.toArray 29) = w2 := ⟨_, rfl⟩
  rw [hw2] at k1 k2 k3 k4 HX HR HB HJ HC
  have HW := Lib.hid hw2
  clear hX hK hR hB hJ hRR hw2 hN
  go_enter Tryz.func55, Tryz.ntmps55
  go_wp2_with (refine wpList_alloc_to rfl 29 rfl _ _ (job_alloc _) ?_; simp only [Act.put, HW.out, World.size_alloc, List.setIfInBounds_toArray, List.set_cons_succ, List.set_cons_zero])
  refine (HI.out _).mono ?_
  rintro e w3 ⟨rfl, rfl⟩
  go_wp2_with (refine wpList_load_job rfl _ rfl w.heap.size rfl cs HX.out HL.out ?_; simp only [Act.put, List.setIfInBounds_toArray, List.set_cons_succ, List.set_cons_zero])
  refine HC.out.mono ?_
  rintro e w4 ⟨ds, rfl, hJ4, hb⟩
  have HR4 := Lib.hid (HR.out.later (by decide) hb); have HB4 := Lib.hid (up_trans HB.out hb); have HJ4 := Lib.hid hJ4
  have hs2 : w.heap.size + 2 < w2.heap.size := HR.out.lowE (by decide)
  clear hb hJ4 k1 k2 k3 k4
  go_wp2_with (refine wpList_store_job rfl _ _ rfl (w.heap.size + 2) rfl zeroL ds rfl HR4.out rfl HJ4.out.length HJ4.out.one ?_; simp only [Act.put])
  have HS := HR4.out.sets (ws := ds) (by rw [HJ4.out.length]; rfl)
  exact end_job Tryz.results55 ds (w.heap.size + 2) (by rfl) (by rfl) (by rfl) HS (take_end (by omega) hs2 HJ4.out) (below_setCells (by omega) _ _ _ HB4.out)

theorem key_folds0 : ∀ k ∈ keyL, k.d = 4 → k.f = 0 := by decide
theorem key_last0 : ∀ k ∈ keyL, k.d = 5 → k.f = 0 := by decide
/-- What take answers, of each key. -/
theorem take_any (G : Nat → Prop) {k : Ky} (hk : k ∈ keyL) (cs : List Value) (j : Jb) (a : Option Addr) (c : Nat) (ls : List (List UInt8)) (w : World) (h : JobG G w cs j) (hT : TxG G w a c ls) (hz : ∀ l ∈ ls, l.length ≤ 900000)
    (hl : j.f.l.length ≤ 1000000) (hls : j.ls.length ≤ 1000000) (hg : GoodM w) :
    Calls Tryz.prog 55 #[.agg cs.toArray, .agg (keyV k).toArray, .slice a ls.length c] w (GivesJ G (takeM k ls j) w) := by
  have hone := key_one k hk
  have hex := key_exact k hk
  have hfo := key_folds k hk
  have hla := key_last k hk
  have hpl := key_places k hk
  have hkk := key_kind k hk
  unfold takeM
  by_cases hlen : ls.length < k.lo ∨ k.hi < ls.length
  · rw [if_pos hlen]
    exact take_bad G cs (tx k.w) k.d k.f k.lo k.hi a ls.length c w h.length (by
      rw [Bool.and_eq_false_iff]
      rcases hlen with h | h
      · exact .inl (decide_eq_false (by omega))
      · exact .inr (decide_eq_false (by omega)))
  · rw [if_neg hlen]
    obtain ⟨kw, kd, kf, klo, khi⟩ := k
    unfold keyV
    simp only at hone hex hfo hla hpl hkk hlen ⊢
    rcases hkk with rfl | rfl | rfl | rfl | rfl | rfl
    · obtain ⟨rfl, rfl⟩ := hone (by decide) (by decide) (by decide)
      obtain ⟨p, rfl⟩ := List.length_eq_one_iff.1 (show ls.length = 1 by omega)
      obtain ⟨g, o, rfl, -, hc, -⟩ := hT.resolve_left (by simp)
      have c0 := hc 0 p rfl
      rw [Nat.add_zero] at c0
      rw [if_pos rfl]
      exact take_title G cs j (tx kw) kf g o c p w h c0 (by have := hz p (by simp); omega)
    · rw [if_neg (by decide), if_neg (by decide), if_neg (by decide), if_neg (by decide), if_neg (by decide)]
      obtain rfl := hex (by decide) (by decide)
      obtain rfl : ls.length = klo := by omega
      exact take_nums G cs j (tx kw) kf a c ls w h hT.arg (by omega) (fun l hl => Nat.le_trans (hz l hl) (by omega)) hl hls hg
    · obtain ⟨rfl, rfl⟩ := hone (by decide) (by decide) (by decide)
      obtain ⟨p, rfl⟩ := List.length_eq_one_iff.1 (show ls.length = 1 by omega)
      obtain ⟨g, o, rfl, -, hc, -⟩ := hT.resolve_left (by simp)
      have c0 := hc 0 p rfl
      rw [Nat.add_zero] at c0
      rw [if_neg (by decide), if_pos rfl]
      exact take_word G cs j (tx kw) kf 1 2 g o c p w h c0 (.inl ⟨rfl, rfl⟩) (by omega) hl hls
    · obtain ⟨rfl, rfl⟩ := hone (by decide) (by decide) (by decide)
      obtain ⟨p, rfl⟩ := List.length_eq_one_iff.1 (show ls.length = 1 by omega)
      obtain ⟨g, o, rfl, -, hc, -⟩ := hT.resolve_left (by simp)
      have c0 := hc 0 p rfl
      rw [Nat.add_zero] at c0
      rw [if_neg (by decide), if_neg (by decide), if_pos rfl]
      exact take_word G cs j (tx kw) kf 2 3 g o c p w h c0 (.inr ⟨rfl, rfl⟩) (by omega) hl hls
    · obtain ⟨rfl, rfl⟩ := hfo rfl
      rw [if_neg (by decide), if_neg (by decide), if_neg (by decide), if_pos rfl]
      have hf0 : kf = 0 := key_folds0 _ hk rfl
      subst hf0
      exact take_folds G cs j (tx kw) a c ls w h hT.arg (by omega) (fun l hl => Nat.le_trans (hz l hl) (by omega)) hg
    · obtain ⟨rfl, rfl⟩ := hla rfl
      rw [if_neg (by decide), if_neg (by decide), if_neg (by decide), if_neg (by decide), if_pos rfl]
      have hf0 : kf = 0 := key_last0 _ hk rfl
      subst hf0
      exact take_last G cs j (tx kw) a c ls w h hT (by omega) (fun l hl => Nat.le_trans (hz l hl) (by omega))
end Go.Proofs.YtenigkjonegdmaaGreatDoor
/- What ticket's find and mayLack answer. -/
namespace Go.Proofs.YtenigkjonegdmaaGreatDoor
open Go.RowKit
set_option linter.unusedVariables false
set_option linter.unusedSimpArgs false

/-- A key of nothing. -/
def zeroK : Ky := ⟨[], 0, 0, 0, 0⟩
theorem keyV_zero : keyV zeroK = [.string ⟨#[]⟩, .int .i64 0, .int .i64 0, .int .i64 0, .int .i64 0] := rfl
theorem mayLack_any (k : Ky) (w : World) : Calls Tryz.prog 18 #[.agg (keyV k).toArray] w fun e w' => e = .returned (.bool (decide (k.d = 5))) ∧ Below w.heap.size w w' := by
  obtain ⟨kw, kd, kf, klo, khi⟩ := k
  unfold keyV
  simp only
  have z : (kd == 5) = decide (kd = 5) := by rw [Bool.eq_iff_iff]; simp
  generalize decide (kd = 5) = b at *
  have HB := Lib.hid (up_alloc (Below.refl w.heap.size w) (.cells #[.string (tx kw), .int .i64 kd, .int .i64 (kf : Int), .int .i64 (klo : Int), .int .i64 (khi : Int)] 51))
  go_enter Tryz.func18, Tryz.ntmps18
  go_wp2
  go_ret
  exact ⟨rfl, HB.out⟩

/-- Ahead of the k-th key none has the word. -/
def FindRel (s : List UInt8) (g : Nat) (w : World) (i : Value) (wr : World) : Prop :=
  ∃ k : Nat, k ≤ 16 ∧ i = .int .i64 (k : Int) ∧ (∀ j x, j < k → keyL[j]? = some x → x.w ≠ s) ∧ Bx wr w.heap.size (keyV zeroK) ∧ Keys wr g ∧ Below w.heap.size w wr
/-- find answers this key, or none. -/
def GivesK (F : Option Ky) (w : World) (e : Ending) (w' : World) : Prop := e = .returned (.tuple #[.agg (keyV (F.getD zeroK)).toArray, .bool F.isSome]) ∧ Below w.heap.size w w'
theorem find_at {s : List UInt8} {k : Nat} {x : Ky} (h : keyL[k]? = some x) (h0 : ∀ j y, j < k → keyL[j]? = some y → y.w ≠ s) (e : x.w = s) : keyL.find? (fun k => decide (k.w = s)) = some x := by
  rw [List.find?_eq_some_iff_getElem]
  obtain ⟨h1, h2⟩ := List.getElem?_eq_some_iff.1 h
  refine ⟨by simpa using e, k, h1, h2, fun j hj => ?_⟩
  have := h0 j _ hj (List.getElem?_eq_getElem (by omega))
  simpa using this
theorem find_no {s : List UInt8} (h0 : ∀ j y, j < 16 → keyL[j]? = some y → y.w ≠ s) : keyL.find? (fun k => decide (k.w = s)) = none := by
  rw [List.find?_eq_none]
  intro x hx
  obtain ⟨j, hj⟩ := List.getElem?_of_mem hx
  have := h0 j x (List.getElem?_eq_some_iff.1 hj).1 hj
  simpa using this

set_option maxHeartbeats 1000000 in
theorem find_any (s : List UInt8) (w : World) : Calls Tryz.prog 54 #[.string (tx s)] w (GivesK (keyL.find? fun k => decide (k.w = s)) w) := by
  obtain ⟨F, hF⟩ : ∃ F, (keyL.find? fun k => decide (k.w = s)) = F := ⟨_, rfl⟩
  rw [hF]
  have HF := Lib.hid hF
  obtain ⟨S, hS⟩ : ∃ S, tx s = S := ⟨_, rfl⟩
  have HS := Lib.hid hS
  rw [hS]
  clear hF hS
  have HK := Lib.hid (fun w => keys_any w)
  have HX := Lib.hid (Bx.new w 51 (keyV zeroK))
  have HB := Lib.hid (up_alloc (Below.refl w.heap.size w) (.cells #[.string ⟨#[]⟩, .int .i64 0, .int .i64 0, .int .i64 0, .int .i64 0] 51))
  go_enter Tryz.func54, Tryz.ntmps54
  go_wp2_with fail
  refine (HK.out _).mono ?_
  rintro e w1 ⟨g, rfl, -, hk, hb⟩
  have HX1 := Lib.hid (HX.out.up hb)
  have HB1 := Lib.hid (up_trans HB.out hb)
  have HKs := Lib.hid hk
  clear hk hb HX HB HK
  go_wp2
  go_loopw [8] (fun i wr => FindRel s g w i wr) (fun i _ => 16 - (intOf i).toNat)
  case atStart => exact ⟨0, by omega, by go_num, fun j x hj => absurd hj (Nat.not_lt_zero _), HX1.out, HKs.out, HB1.out⟩
  case round =>
    obtain ⟨k, hk, rfl, h0, hX, hK, hB⟩ := hrel
    by_cases hlt : k < 16
    · obtain ⟨x, hx⟩ : ∃ x, keyL[k]? = some x := ⟨keyL[k]'(by rw [keyL_length]; exact hlt), List.getElem?_eq_getElem _⟩
      have c0 := hK k x hx 0 _ rfl
      rw [Nat.add_zero] at c0
      have c1 := hK k x hx 1 _ rfl; have c2 := hK k x hx 2 _ rfl; have c3 := hK k x hx 3 _ rfl; have c4 := hK k x hx 4 _ rfl
      have z1 : (k : Int) < 16 := by omega
      have H0 := Lib.hid h0; have HX := Lib.hid hX; have HK := Lib.hid hK; have HB := Lib.hid hB; have Hx := Lib.hid hx
      have he : ((tx x.w).toList == S.toList) = decide (x.w = s) := by rw [← HS.out, tx_same]
      obtain ⟨b, hb⟩ : ∃ b, decide (x.w = s) = b := ⟨_, rfl⟩
      have Hb := Lib.hid hb
      rw [hb] at he
      clear h0 hX hK hB hx hb HX1 HKs HB1
      obtain ⟨kw, kd, kf, klo, khi⟩ := x
      simp only at c0 c1 c2 c3 c4 he Hb
      obtain ⟨W, hW⟩ : ∃ W, tx kw = W := ⟨_, rfl⟩
      rw [hW] at c0 he
      have HW := Lib.hid hW
      clear hW
      have HN := Lib.hid (up_alloc (Below.refl wr.heap.size wr) (.cells #[.string W, .int .i64 kd, .int .i64 (kf : Int), .int .i64 (klo : Int), .int .i64 (khi : Int)] 51))
      have A := HX.out.up HN.out
      have a0 := A.cell 0 rfl; have a1 := A.cell 1 rfl; have a2 := A.cell 2 rfl; have a3 := A.cell 3 rfl; have a4 := A.cell 4 rfl; have af := A.free
      have HA := Lib.hid A
      clear A
      cases b
      · go_wp2
        go_roundw
        case rel => exact ⟨k + 1, by omega, by go_num, fun j y hj hy => by
          by_cases hjk : j = k
          · subst hjk
            rw [Hx.out] at hy
            obtain rfl := Option.some.inj hy
            exact of_decide_eq_false Hb.out
          · exact H0.out j y (by omega) hy, HA.out, HK.out.up HN.out, up_trans HB.out HN.out⟩
        case measure => simp [intOf]; omega
      · go_wp2
        have E := find_at Hx.out H0.out (of_decide_eq_true Hb.out)
        rw [HF.out] at E
        rw [E]
        refine bodyPost_ret (v := .tuple #[.agg #[.string W, .int .i64 kd, .int .i64 (kf : Int), .int .i64 (klo : Int), .int .i64 (khi : Int)], .bool true]) (by simp [results, Tryz.results54, go_sem, a0, a1, a2, a3, a4]) rfl ⟨by rw [← HW.out]; rfl, ?_⟩
        have B2 := up_trans HB.out HN.out
        repeat (first | (with_reducible exact B2) | (with_reducible refine up_set ?_ (by simp only; omega) _))
    · obtain rfl : k = 16 := by omega
      have E := find_no h0
      rw [HF.out] at E
      have HE := Lib.hid E
      have HB := Lib.hid hB
      have a0 := hX.cell 0 rfl; have a1 := hX.cell 1 rfl; have a2 := hX.cell 2 rfl; have a3 := hX.cell 3 rfl; have a4 := hX.cell 4 rfl; have af := hX.free
      clear E hB hX hK h0 HX1 HKs HB1
      go_wp2
      rw [HE.out]
      refine bodyPost_ret (v := .tuple #[.agg #[.string ⟨#[]⟩, .int .i64 0, .int .i64 0, .int .i64 0, .int .i64 0], .bool false]) (by simp [results, Tryz.results54, go_sem, a0, a1, a2, a3, a4]) rfl ⟨rfl, ?_⟩
      have B2 := HB.out
      repeat (first | (with_reducible exact B2) | (with_reducible refine up_set ?_ (by simp only; omega) _))
end Go.Proofs.YtenigkjonegdmaaGreatDoor
/- The keys that were met, as a map of the call's own; whether one is lacking. -/
namespace Go.Proofs.YtenigkjonegdmaaGreatDoor
open Go.RowKit
set_option linter.unusedVariables false
set_option linter.unusedSimpArgs false

/-- The map in block M has just these keys. -/
def MetW (w : World) (M : Nat) (met : List (List UInt8)) : Prop :=
  ∃ (n : Nat) (D : DataW Unit), w.ownsMap Tryz.prog 9 unitElem M n D ∧ n ≤ met.length ∧ Maps.IsMap D ∧ ∀ x : List UInt8, Maps.has D (.string x) = decide (x ∈ met)
theorem MetW.lt {w : World} {M : Nat} {met : List (List UInt8)} (h : MetW w M met) : M < w.heap.size := by
  obtain ⟨n, D, h, -⟩ := h
  exact h.lt
theorem MetW.kept {w w' : World} {M : Nat} {met : List (List UInt8)} (h : MetW w M met) (hb : w'.heap[M]? = w.heap[M]?) : MetW w' M met := by
  obtain ⟨n, D, ⟨es, clock, h1, h2⟩, h3⟩ := h
  exact ⟨n, D, ⟨es, clock, hb.trans h1, h2⟩, h3⟩
theorem MetW.up {w w' : World} {M : Nat} {met : List (List UInt8)} (h : MetW w M met) (hb : Below w.heap.size w w') : MetW w' M met := h.kept (hb.block M h.lt)
theorem MetW.made (w : World) : MetW (w.alloc (.map #[] 0)) w.heap.size [] :=
  ⟨0, .map [], World.ownsMap_made w _ _ _, Nat.le_refl _, Maps.isMap_empty, fun x => rfl⟩
theorem Tryz.keyText : Maps.Keyed Tryz.prog 9 := Maps.string_keyed Tryz.underlying9
theorem Tryz.zeroUnit (w : World) : (zeroValue 94).run Tryz.prog w = .ok (.agg #[]) w := by kernel_rfl
theorem keyOf_tx {x : List UInt8} (h : x.length ≤ 1000) : keyOf Tryz.prog 9 (.string (tx x)) = some (.string x) := by
  have := WideMaps.keyOf_string_mk Tryz.underlying9 (s := tx x) (by rw [tx_size]; unfold maxLen; omega)
  rwa [data_tx] at this

/-- The key k is wanted, and was not met. -/
def lackK (met : List (List UInt8)) (k : Ky) : Bool := !decide (k.w ∈ met) && !decide (k.d = 5)
set_option maxRecDepth 100000 in
theorem lacks_core (W : ByteArray) (kw : List UInt8) (kd kf klo khi : Int) (B M : Nat) (met : List (List UInt8)) (m d : Bool) (w : World) (hM : MetW w M met) (hB : w.cell? ⟨B, 0, none⟩ = some (.map (some M)))
    (hkey : keyOf Tryz.prog 9 (.string W) = some (.string kw)) (hm : decide (kw ∈ met) = m) (HL : ∀ w, Calls Tryz.prog 18 #[.agg #[.string W, .int .i64 kd, .int .i64 kf, .int .i64 klo, .int .i64 khi]] w fun e w' => e = .returned (.bool d) ∧ Below w.heap.size w w') :
    Calls Tryz.prog 57 #[.agg #[.string W, .int .i64 kd, .int .i64 kf, .int .i64 klo, .int .i64 khi], .pointer (some ⟨B, 0, none⟩)] w fun e w' => e = .returned (.bool (!m && !d)) ∧ Below w.heap.size w w' := by
  have HB := Lib.hid (up_alloc (Below.refl w.heap.size w) (.cells #[.string W, .int .i64 kd, .int .i64 kf, .int .i64 klo, .int .i64 khi] 51))
  have b0 := bl_cell HB.out hB
  obtain ⟨n, D, hown, -, -, hD⟩ := (hM.up HB.out)
  have hh := hD kw
  rw [hm] at hh
  have H1 := Lib.hid hown
  have HLL := Lib.hid HL
  clear hown hM hD hB HL hm
  have HN := Lib.hid (up_alloc HB.out (.cells #[] 94))
  go_enter Tryz.func57, Tryz.ntmps57
  cases m
  · go_wp2_with (at_lookup; refine wpList_lookup_own_unit _ rfl _ _ 69 rfl 9 94 Tryz.keyText Tryz.underlying69 (Tryz.zeroUnit _) M n D rfl H1.out _ _ rfl hkey ?_)
    refine (HLL.out _).mono ?_
    rintro e w1 ⟨rfl, hb⟩
    have HN1 := Lib.hid (up_trans HN.out hb)
    clear hb
    go_wp2
    go_ret
    exact ⟨by simp, HN1.out⟩
  · go_wp2_with (at_lookup; refine wpList_lookup_own_unit _ rfl _ _ 69 rfl 9 94 Tryz.keyText Tryz.underlying69 (Tryz.zeroUnit _) M n D rfl H1.out _ _ rfl hkey ?_)
    go_ret
    exact ⟨by simp, HN.out⟩
theorem lacks_fn (k : Ky) (hk : k.w.length ≤ 1000) (B M : Nat) (met : List (List UInt8)) (w : World) (hM : MetW w M met) (hB : w.cell? ⟨B, 0, none⟩ = some (.map (some M))) :
    Calls Tryz.prog 57 #[.agg (keyV k).toArray, .pointer (some ⟨B, 0, none⟩)] w fun e w' => e = .returned (.bool (lackK met k)) ∧ Below w.heap.size w w' :=
  lacks_core (tx k.w) k.w k.d k.f k.lo k.hi B M met _ _ w hM hB (keyOf_tx hk) rfl (fun w => mayLack_any k w)

/-- The i-th key. -/
def keyF (i : Fin 16) : Ky := keyL[i.val]'(by rw [keyL_length]; exact i.isLt)
theorem keyF_all : (List.finRange 16).map keyF = keyL := by decide
theorem keyF_short : ∀ i, (keyF i).w.length ≤ 1000 := by decide
theorem keyF_at : ∀ j : Fin 16, keyL[j.val]? = some (keyF (List.finRange 16)[j.val]!) := by decide
theorem lacks_eq (met : List (List UInt8)) : (((List.finRange 16).take 16).any fun i => lackK met (keyF i)) = lacksB met := by
  rw [List.take_of_length_le (by rw [List.length_finRange]; decide)]
  show _ = keyL.any (lackK met)
  rw [← keyF_all, List.any_map]
  rfl
set_option maxRecDepth 100000 in
theorem lacks_any (M : Nat) (met : List (List UInt8)) (w : World) (hM : MetW w M met) :
    Calls Tryz.prog 31 #[.map (some M)] w fun e w' => e = .returned (.bool (lacksB met)) ∧ Below w.heap.size w w' := by
  have HB := Lib.hid (up_alloc (Below.refl w.heap.size w) (.cells #[.map (some M)] 69))
  have HX := Lib.hid (Bx.new w 69 [.map (some M)])
  have HK := Lib.hid (fun w => keys_any w)
  have eg : ∀ args w, (callFunc 57 args).run Tryz.prog w = .ok (.enter 57 args) w := enters_of Tryz.func57 (by kernel_rfl) rfl
  have HM := Lib.hid hM
  obtain ⟨L, hL⟩ : ∃ L, lacksB met = L := ⟨_, rfl⟩
  have HL := Lib.hid hL
  rw [hL]
  clear hM hL
  go_enter Tryz.func31, Tryz.ntmps31
  go_wp2_with fail
  refine (HK.out _).mono ?_
  rintro e w1 ⟨g, rfl, hg, hk, hb⟩
  have HB1 := Lib.hid (up_trans HB.out hb)
  have hX1 := HX.out.up hb
  have hM1 := HM.out.up HB1.out
  have hgl : g < w1.heap.size := World.block_lt_of_cell? w1 _ (hk 0 _ rfl 0 _ rfl)
  have K := AnyQ.slices_ContainsFunc (α := Fin 16) Tryz.laysSlgf8K 5 (fun _ => by kernel_rfl) (fun _ => by kernel_rfl) (fun i => keyV (keyF i)) (fun _ => rfl) (fun i => lackK met (keyF i)) 57 #[.pointer (some ⟨w.heap.size, 0, none⟩)] eg g 0 16 16 (List.finRange 16) w1
    (fun W x hW => (lacks_fn _ (keyF_short x) _ M met W (hM1.up hW) (bl_cell hW (hX1.cell 0 rfl))).mono fun _ _ ⟨h, hb⟩ => ⟨h, up_trans hW hb⟩) (by rw [List.length_finRange]; decide) (by decide) hgl (fun j hj i v hv => by
      rw [List.length_finRange] at hj
      rw [Nat.zero_add]
      exact hk j _ (keyF_at ⟨j, hj⟩) i v hv)
  rw [lacks_eq, HL.out] at K
  have K2 : Calls Tryz.prog 56 #[.slice (some ⟨g, 0, none⟩) 16 16, .func (.func 57) #[] #[.pointer (some ⟨w.heap.size, 0, none⟩)]] w1 fun e w' => e = .returned (.bool L) ∧ Below w1.heap.size w1 w' := K
  have HK2 := Lib.hid K2
  clear K K2 hM1 hX1 hgl hk hg hb
  go_wp2_with fail
  refine HK2.out.mono ?_
  rintro e w2 ⟨rfl, hb⟩
  have HB2 := Lib.hid (up_trans HB1.out hb)
  clear hb
  go_wp2
  go_ret
  exact ⟨rfl, HB2.out⟩
end Go.Proofs.YtenigkjonegdmaaGreatDoor
/- Tickets as plain data: a job that is read can be told; lines of keys, each once, in whatever order, blank ones between, come to the job whose keys they tell. -/
namespace Go.Proofs.YtenigkjonegdmaaGreatDoor
open Go.RowKit DecMath
set_option linter.unusedVariables false
set_option linter.unusedSimpArgs false

theorem unq_seen {p s : List UInt8} (h : unqO p = some s) : s.all seenB = true := by
  unfold unqO at h
  split at h
  · obtain rfl := Option.some.inj h
    rename_i e
    exact (quote_some e).1
  · cases h
theorem get_told {l : List (List UInt8)} {s : Sc} (h : getM l = some s) : (putM s).isSome = true := by
  unfold getM at h
  split at h
  · rename_i x hx
    obtain rfl := Option.some.inj h
    split at hx
    · unfold putM
      rw [(find_of_mem (find_some hx)).2]
      rfl
    · cases hx
  · split at h
    · rename_i y hy
      split at h
      · obtain rfl := Option.some.inj h
        rename_i hn
        unfold putM tellM
        rw [hn, if_pos (read_back hy).2]
        rfl
      · cases h
    · cases h
/-- A job's part of a key is all that its telling asks. -/
theorem told_agr {k : Ky} (hk : k ∈ keyL) {a b : Jb} (h : AgrK k a b) : (prtM k a).2 = (prtM k b).2 := by
  unfold AgrK at h
  unfold prtM
  have hone := key_one k hk
  rcases key_kind k hk with hd | hd | hd | hd | hd | hd
  · rw [if_pos hd] at h; rw [if_pos hd, if_pos hd, h]
  · rw [if_neg (by omega), if_neg (by omega), if_neg (by omega), if_neg (by omega), if_neg (by omega), if_neg (by omega), if_neg (by omega), if_neg (by omega), if_neg (by omega), if_neg (by omega)]
  · rw [if_neg (by omega), if_neg (by omega), if_neg (by omega)] at h
    obtain ⟨o1, o2⟩ := hone (by omega) (by omega) (by omega)
    rw [if_neg (by omega), if_pos hd, if_neg (by omega), if_pos hd, h k.f (by omega) (by omega)]
  · rw [if_neg (by omega), if_neg (by omega), if_neg (by omega)] at h
    obtain ⟨o1, o2⟩ := hone (by omega) (by omega) (by omega)
    rw [if_neg (by omega), if_neg (by omega), if_pos hd, if_neg (by omega), if_neg (by omega), if_pos hd, h k.f (by omega) (by omega)]
  · rw [if_neg (by omega), if_pos hd] at h
    rw [if_neg (by omega), if_neg (by omega), if_neg (by omega), if_pos hd, if_neg (by omega), if_neg (by omega), if_neg (by omega), if_pos hd, h]
  · rw [if_neg (by omega), if_neg (by omega), if_pos hd] at h
    rw [if_neg (by omega), if_neg (by omega), if_neg (by omega), if_neg (by omega), if_pos hd, if_neg (by omega), if_neg (by omega), if_neg (by omega), if_neg (by omega), if_pos hd, h]
theorem word_full {t : Int} (ht : t = 1 ∨ t = 2) {m : Nat} {p : List UInt8} (h : wordN t p = some m) : (wprM t ((m : Int) + 1)).2 = true := by
  unfold wprM
  rw [(wordN_yes h).2]
  refine decide_eq_true fun e => ?_
  have h0 := ((tabL_nodup t ht).2.2 p (List.mem_of_getElem? (wordN_some h).2)).1
  have := congrArg (fun b : ByteArray => b.data.toList) e
  simp only [data_tx] at this
  exact h0 this

/-- What is read of a key's parts can be told; all else stays. -/
theorem take_told {k : Ky} (hk : k ∈ keyL) {l : List (List UInt8)} {c c' : Jb} (h : takeM k l c = (0, c')) : (prtM k c').2 = true ∧ (∀ k' ∈ keyL, k' ≠ k → AgrK k' c' c) ∧ (WfJ c → WfJ c') := by
  have key4 : ∀ k' ∈ keyL, k' ≠ k → k.d ≠ 1 → k'.d ≠ k.d := fun k' hk' hne h1 e => hne (key_only k' hk' k hk e (by rw [e]; exact h1))
  have hone := key_one k hk
  have hnum : ∀ (n' : Nat → Int) (hf : k.d ≠ 0 ∧ k.d ≠ 4 ∧ k.d ≠ 5) (hn : ∀ i, ¬ (k.f ≤ i ∧ i < k.f + k.hi) → n' i = c.n i) k', k' ∈ keyL → k' ≠ k → AgrK k' { c with n := n' } c := by
    intro n' hf hn k' hk' hne
    unfold AgrK
    split
    · rfl
    · split
      · rfl
      · split
        · rfl
        · intro i a b
          have := key_apart k hk k' hk' (Ne.symm hne) hf.1 hf.2.1 hf.2.2 (by assumption) (by assumption) (by assumption)
          exact hn i (by omega)
  unfold takeM at h
  split at h
  · cases h
  · rename_i hlen
    rcases key_kind k hk with hd | hd | hd | hd | hd | hd
    · rw [if_pos hd] at h
      unfold titleM at h
      split at h
      · cases h
      · rename_i s hs
        split at h
        · cases h
        · rename_i hl
          obtain rfl := (Prod.mk.inj h).2
          refine ⟨?_, fun k' hk' hne => ?_, fun hw => hw⟩
          · unfold prtM
            rw [if_pos hd, if_neg hl]
            simp only [quoteO]
            rw [if_pos (unq_seen hs)]
            rfl
          · have := key4 k' hk' hne (by omega)
            unfold AgrK
            rw [if_neg (by omega)]
            (repeat' split) <;> simp
    · rw [if_neg (by omega), if_neg (by omega), if_neg (by omega), if_neg (by omega), if_neg (by omega)] at h
      have he := key_exact k hk (by omega) (by omega)
      unfold numbersM at h
      split at h
      · cases h
      · rename_i n' hn
        obtain rfl := (Prod.mk.inj h).2
        obtain ⟨h1, h2⟩ := numsM_some _ _ _ _ hn
        refine ⟨?_, hnum n' ⟨by omega, by omega, by omega⟩ (fun i hi => h1 i (by omega)), h2⟩
        unfold prtM
        rw [if_neg (by omega), if_neg (by omega), if_neg (by omega), if_neg (by omega), if_neg (by omega)]
    · rw [if_neg (by omega), if_pos hd] at h
      obtain ⟨o1, o2⟩ := hone (by omega) (by omega) (by omega)
      unfold wordM at h
      split at h
      · cases h
      · rename_i m hm
        obtain rfl := (Prod.mk.inj h).2
        refine ⟨?_, hnum _ ⟨by omega, by omega, by omega⟩ (fun i hi => ?_), fun hw i => ?_⟩
        · unfold prtM
          rw [if_neg (by omega), if_pos hd]
          simp only [setN, if_true]
          exact word_full (.inl rfl) hm
        · have : i ≠ k.f := by omega
          simp [setN, this]
        · have := (wordN_some hm).1
          unfold setN
          simp only
          split
          · omega
          · exact hw i
    · rw [if_neg (by omega), if_neg (by omega), if_pos hd] at h
      obtain ⟨o1, o2⟩ := hone (by omega) (by omega) (by omega)
      unfold wordM at h
      split at h
      · cases h
      · rename_i m hm
        obtain rfl := (Prod.mk.inj h).2
        refine ⟨?_, hnum _ ⟨by omega, by omega, by omega⟩ (fun i hi => ?_), fun hw i => ?_⟩
        · unfold prtM
          rw [if_neg (by omega), if_neg (by omega), if_pos hd]
          simp only [setN, if_true]
          exact word_full (.inr rfl) hm
        · have : i ≠ k.f := by omega
          simp [setN, this]
        · have := (wordN_some hm).1
          unfold setN
          simp only
          split
          · omega
          · exact hw i
    · rw [if_neg (by omega), if_neg (by omega), if_neg (by omega), if_pos hd] at h
      unfold schemeM at h
      split at h
      · cases h
      · rename_i s hs
        obtain rfl := (Prod.mk.inj h).2
        refine ⟨?_, fun k' hk' hne => ?_, fun hw => hw⟩
        · unfold prtM
          rw [if_neg (by omega), if_neg (by omega), if_neg (by omega), if_pos hd]
          exact get_told hs
        · have := key4 k' hk' hne (by omega)
          unfold AgrK
          split
          · rfl
          · rw [if_neg (by omega)]
            split <;> simp
    · rw [if_neg (by omega), if_neg (by omega), if_neg (by omega), if_neg (by omega), if_pos hd] at h
      unfold lastM at h
      split at h
      · rename_i hs
        obtain rfl := (Prod.mk.inj h).2
        refine ⟨?_, fun k' hk' hne => ?_, fun hw => hw⟩
        · unfold prtM
          rw [if_neg (by omega), if_neg (by omega), if_neg (by omega), if_neg (by omega), if_pos hd]
          simp only [hs, Bool.and_true]
          exact decide_eq_true (by omega)
        · have := key4 k' hk' hne (by omega)
          unfold AgrK
          split
          · rfl
          · split
            · rfl
            · rw [if_neg (by omega)]
              simp
      · cases h
theorem take_err (k : Ky) (l : List (List UInt8)) (c : Jb) : (takeM k l c).1 ≠ 0 → (takeM k l c).2 = zeroJ := by
  unfold takeM titleM wordM schemeM lastM numbersM
  (repeat' split) <;> simp
/-- What stands while lines are read: each key that was met can be told. -/
def ReadI (met : List (List UInt8)) (c : Jb) : Prop := WfJ c ∧ ∀ k ∈ keyL, k.w ∈ met ∨ k.d = 5 → (prtM k c).2 = true
theorem read_line {met : List (List UInt8)} {c : Jb} (h : ReadI met c) (s : List UInt8) (h0 : (lineM met c s).1 = 0) : ReadI (lineM met c s).2.2 (lineM met c s).2.1 := by
  revert h0
  unfold lineM
  split
  · intro h0; cases h0
  · intro _; exact h
  · rename_i w l hf
    split
    · intro h0; cases h0
    · rename_i k hk
      split
      · intro h0; cases h0
      · intro h0
        simp only at h0 ⊢
        have hm : k ∈ keyL := List.mem_of_find?_eq_some hk
        have e : takeM k l c = (0, (takeM k l c).2) := by rw [← h0]
        obtain ⟨h1, h2, h3⟩ := take_told hm e
        refine ⟨h3 h.1, fun k' hk' hw => ?_⟩
        by_cases hkk : k' = k
        · rw [hkk]; exact h1
        · rw [told_agr hk' (h2 k' hk' hkk)]
          refine h.2 k' hk' ?_
          rcases hw with hw | hw
          · rcases List.mem_cons.1 hw with hw | hw
            · exact absurd (key_words k' hk' k hm hw) hkk
            · exact .inl hw
          · exact .inr hw
theorem parse_told : ∀ (L : List (List UInt8)) (i : Nat) (met : List (List UInt8)) (c r : Jb) (n : Nat), ReadI met c → parseM L i met c = (r, n, 0) → tellB r = true ∧ WfJ r
  | [], i, met, c, r, n, h, e => by
    unfold parseM at e
    split at e
    · cases e
    · rename_i hl
      obtain rfl := (Prod.mk.inj e).1
      refine ⟨?_, h.1⟩
      unfold tellB
      rw [List.all_eq_true]
      intro k hk
      refine h.2 k hk ?_
      unfold lacksB at hl
      simp only [Bool.not_eq_true, List.any_eq_false, Bool.and_eq_true, not_and, Bool.not_eq_true', decide_eq_false_iff_not, Bool.not_eq_false, Decidable.not_not] at hl
      by_cases hm : k.w ∈ met
      · exact .inl hm
      · exact .inr (hl k hk hm)
  | s :: L, i, met, c, r, n, h, e => by
    unfold parseM at e
    split at e
    · rename_i h0
      exact parse_told L _ _ _ r n (read_line h s h0) e
    · rename_i h0
      exact absurd (Prod.mk.inj (Prod.mk.inj e).2).2 h0
theorem zero_read : ReadI [] zeroJ := by
  refine ⟨fun i => by simp [zeroJ], fun k hk h => ?_⟩
  rcases h with h | h
  · cases h
  · unfold prtM
    rw [if_neg (by omega), if_neg (by omega), if_neg (by omega), if_neg (by omega), if_pos h]
    simp [zeroJ, namesB]
theorem ticket_told {s : List UInt8} {r : Jb} {n : Nat} (h : ticketM s = (r, n, 0)) : tellB r = true ∧ WfJ r := parse_told _ _ _ _ r n zero_read h
theorem line_err (met : List (List UInt8)) (c : Jb) (s : List UInt8) : (lineM met c s).1 ≠ 0 → (lineM met c s).2.1 = zeroJ := by
  unfold lineM
  split
  · simp
  · simp
  · split
    · simp
    · split
      · simp
      · exact take_err _ _ _
theorem parse_err : ∀ (L : List (List UInt8)) (i : Nat) (met : List (List UInt8)) (c : Jb), (parseM L i met c).2.2 ≠ 0 → (parseM L i met c).1 = zeroJ
  | [], i, met, c => by unfold parseM; split <;> simp
  | s :: L, i, met, c => by
    unfold parseM
    split
    · exact parse_err L _ _ _
    · simp
theorem ticket_err {s : List UInt8} (h : (ticketM s).2.2 ≠ 0) : (ticketM s).1 = zeroJ := parse_err _ _ _ _ h

theorem parse_next {s : List UInt8} {L : List (List UInt8)} {i : Nat} {met met' : List (List UInt8)} {c c' : Jb} (e : lineM met c s = (0, c', met')) : parseM (s :: L) i met c = parseM L (i + 1) met' c' := by rw [parseM, e, if_pos rfl]
/-- A line that is blank, or a key's with what a job has of it. -/
def GoodLine (j : Jb) (x : List UInt8 × Option Ky) : Prop := match x.2 with
  | none => fieldsL x.1 = some []
  | some k => k ∈ keyL ∧ fieldsL x.1 = some (k.w :: fldM k j) ∧ (k.d = 5 → j.ls ≠ [])
theorem find_key {k : Ky} (hk : k ∈ keyL) : keyL.find? (fun k' => decide (k'.w = k.w)) = some k := by
  cases h : keyL.find? (fun k' => decide (k'.w = k.w)) with
  | none =>
    rw [List.find?_eq_none] at h
    have := h k hk
    simp at this
  | some k' =>
    have h1 := List.mem_of_find?_eq_some h
    have h2 := List.find?_some h
    simp only [decide_eq_true_eq] at h2
    rw [key_words k' h1 k hk h2]
theorem parse_run {j : Jb} (ht : tellB j = true) (hw : WfJ j) : ∀ (L : List (List UInt8 × Option Ky)) (i : Nat) (met : List (List UInt8)) (c : Jb), (∀ x ∈ L, GoodLine j x) → (L.filterMap (·.2)).Nodup → (∀ k ∈ L.filterMap (·.2), k.w ∉ met) →
    ∃ met' c', parseM (L.map (·.1)) i met c = parseM [] (i + L.length) met' c' ∧ ∀ k ∈ keyL, (k ∈ L.filterMap (·.2) → k.w ∈ met' ∧ AgrK k c' j) ∧ (k ∉ L.filterMap (·.2) → (k.w ∈ met' ↔ k.w ∈ met) ∧ AgrK k c' c)
  | [], i, met, c, hL, hn, hm => ⟨met, c, rfl, fun k hk => ⟨fun h => absurd h (by simp), fun _ => ⟨Iff.rfl, AgrK.refl _ _⟩⟩⟩
  | (s, none) :: L, i, met, c, hL, hn, hm => by
    have hs : fieldsL s = some [] := hL (s, none) (by simp)
    have e : lineM met c s = (0, c, met) := by unfold lineM; rw [hs]
    obtain ⟨met', c', e2, h2⟩ := parse_run ht hw L (i + 1) met c (fun x hx => hL x (by simp [hx])) (by simpa using hn) (by simpa using hm)
    refine ⟨met', c', ?_, by simpa using h2⟩
    rw [List.map_cons, parse_next e, e2, List.length_cons, show i + 1 + L.length = i + (L.length + 1) by omega]
  | (s, some k) :: L, i, met, c, hL, hn, hm => by
    obtain ⟨hk, hs, h5⟩ : k ∈ keyL ∧ fieldsL s = some (k.w :: fldM k j) ∧ (k.d = 5 → j.ls ≠ []) := hL (s, some k) (by simp)
    have hfm : ((s, some k) :: L).filterMap (·.2) = k :: L.filterMap (·.2) := rfl
    rw [hfm] at hn hm
    obtain ⟨hn1, hn2⟩ := List.nodup_cons.1 hn
    have hkm : k.w ∉ met := hm k (by simp)
    obtain ⟨c1, e1, a1, a2⟩ := take_put hw hk (List.all_eq_true.1 ht k hk) h5 c
    have e : lineM met c s = (0, c1, k.w :: met) := by
      unfold lineM
      rw [hs]
      simp only
      rw [find_key hk]
      simp only
      rw [if_neg hkm, e1]
    obtain ⟨met', c', e2, h2⟩ := parse_run ht hw L (i + 1) (k.w :: met) c1 (fun x hx => hL x (by simp [hx])) hn2 (fun k' hk' => by
      simp only [List.mem_cons, not_or]
      refine ⟨fun e => ?_, hm k' (by simp only [List.mem_cons]; exact .inr hk')⟩
      have hk2 : k' ∈ keyL := by
        obtain ⟨x, hx, hxe⟩ := List.mem_filterMap.1 hk'
        have := hL x (by simp [hx])
        unfold GoodLine at this
        rw [hxe] at this
        exact this.1
      rw [key_words k' hk2 k hk e] at hk'
      exact hn1 hk')
    refine ⟨met', c', ?_, fun k' hk' => ?_⟩
    · rw [List.map_cons, parse_next e, e2, List.length_cons, show i + 1 + L.length = i + (L.length + 1) by omega]
    · rw [hfm]
      obtain ⟨g1, g2⟩ := h2 k' hk'
      by_cases hkk : k' = k
      · subst hkk
        refine ⟨fun _ => ?_, fun h => absurd (by simp) h⟩
        obtain ⟨g3, g4⟩ := g2 hn1
        exact ⟨g3.2 (by simp), g4.trans a1⟩
      · refine ⟨fun h => g1 (by simpa [hkk] using h), fun h => ?_⟩
        obtain ⟨g3, g4⟩ := g2 (fun h' => h (by simp [h']))
        refine ⟨g3.trans ?_, g4.trans (a2 k' hk' hkk)⟩
        simp only [List.mem_cons]
        refine ⟨fun h => ?_, .inr⟩
        rcases h with h | h
        · exact absurd (key_words k' hk' k hk h) hkk
        · exact h
/-- The keys that a job has a line of. -/
def hasK (j : Jb) (k : Ky) : Bool := !(decide (k.d = 5) && decide (j.ls = []))
/-- Lines of all these keys, each once, come to the job. -/
theorem parse_all {j : Jb} (ht : tellB j = true) (hw : WfJ j) (L : List (List UInt8 × Option Ky)) (hL : ∀ x ∈ L, GoodLine j x) (hn : (L.filterMap (·.2)).Nodup) (hk : ∀ k ∈ keyL, k ∈ L.filterMap (·.2) ↔ hasK j k = true) :
    ∃ c, parseM (L.map (·.1)) 0 [] zeroJ = (c, L.length, 0) ∧ SameJ c j := by
  obtain ⟨met', c', e, h⟩ := parse_run ht hw L 0 [] zeroJ hL hn (by simp)
  refine ⟨c', ?_, agr_all fun k hkk => ?_⟩
  · rw [e, Nat.zero_add]
    unfold parseM
    rw [if_neg]
    unfold lacksB
    simp only [Bool.not_eq_true, List.any_eq_false, Bool.and_eq_true, not_and, Bool.not_eq_true', decide_eq_false_iff_not, Bool.not_eq_false, Decidable.not_not]
    intro k hkk hm
    by_cases hin : k ∈ L.filterMap (·.2)
    · exact absurd ((h k hkk).1 hin).1 hm
    · rw [hk k hkk] at hin
      unfold hasK at hin
      simp only [Bool.not_eq_true', Bool.not_eq_false, Bool.and_eq_true, decide_eq_true_eq] at hin
      exact hin.1
  · by_cases hin : k ∈ L.filterMap (·.2)
    · exact ((h k hkk).1 hin).2
    · have h2 := ((h k hkk).2 hin).2
      rw [hk k hkk] at hin
      unfold hasK at hin
      simp only [Bool.not_eq_true', Bool.not_eq_false, Bool.and_eq_true, decide_eq_true_eq] at hin
      refine h2.trans ?_
      unfold AgrK
      rw [if_neg (by omega), if_neg (by omega), if_pos hin.1, hin.2]
      rfl
end Go.Proofs.YtenigkjonegdmaaGreatDoor
/- What ticket's read answers, of each line. -/
namespace Go.Proofs.YtenigkjonegdmaaGreatDoor
open Go.RowKit
set_option linter.unusedVariables false
set_option linter.unusedSimpArgs false

/-- A list of texts without its first one. -/
theorem slice_tail (g n c : Nat) (h : n + 1 ≤ c) (hc : c ≤ maxLen) : ∃ a', (∀ w, (Instr.slice 27 (.slice (some ⟨g, 0, none⟩) (n + 1) c) (some (.int .i64 1)) none none).run Tryz.prog w = .ok (.slice a' n (c - 1)) w) ∧ (n ≠ 0 → a' = some ⟨g, 1, none⟩) := by
  by_cases h1 : c = 1
  · subst h1
    obtain rfl : n = 0 := by omega
    refine ⟨some ⟨g, 0, none⟩, fun w => ?_, by simp⟩
    simp [go_sem]
  · refine ⟨some ⟨g, 1, none⟩, fun w => ?_, fun _ => rfl⟩
    simp [go_sem, h1]
    intro h
    omega
/-- What read answers: an error's number and a job; the map has the keys that were met; all else that was there is as it was. -/
def GivesRd (G : Nat → Prop) (M : Nat) (r : Int × Jb × List (List UInt8)) (w : World) (e : Ending) (w' : World) : Prop :=
  ∃ cs, e = .returned (.tuple #[.agg cs.toArray, .int .i64 r.1]) ∧ JobG (fun b => G b ∨ w.heap.size ≤ b) w' cs r.2.1 ∧ MetW w' M r.2.2 ∧ But M M w w'
theorem end_read {G : Nat → Prop} {M : Nat} {r : Int × Jb × List (List UInt8)} {w w1 : World} {fn : Func} {s s2 : Nat} (hr : fn.results = #[.cell s 29, .tmp s2]) (ds : List Value) (B : Nat) {a : Act} (ht : a.tmps.getD s undef = .pointer (some ⟨B, 0, none⟩)) (hv : a.tmps.getD s2 undef = .int .i64 r.1) (hd : a.defers = [])
    (hR : Bx w1 B ds) (hG : JobG (fun b => G b ∨ w.heap.size ≤ b) w1 ds r.2.1) (hM : MetW w1 M r.2.2) (hb : But M M w w1) : bodyPost Tryz.prog fn (GivesRd G M r w) .ret a w1 :=
  bodyPost_ret (v := .tuple #[.agg ds.toArray, .int .i64 r.1]) (results_wide2 hr B ht ds _ _ hv hR.range Tryz.underlying29 rfl (by rw [hG.length]; exact infoJob)) hd ⟨ds, rfl, hG, hM, hb⟩
theorem metW_sets {w : World} {M B : Nat} {met : List (List UInt8)} (h : MetW w M met) (hB : M ≠ B) (ws : List Value) : MetW (w.setCells B 0 ws) M met := h.kept ((setCells_but B B 0 ws w).block M h.lt hB hB)
theorem line_none {met : List (List UInt8)} {j : Jb} {s : List UInt8} (h : fieldsL s = none) : lineM met j s = (1, zeroJ, met) := by unfold lineM; rw [h]
theorem line_blank {met : List (List UInt8)} {j : Jb} {s : List UInt8} (h : fieldsL s = some []) : lineM met j s = (0, j, met) := by unfold lineM; rw [h]
theorem line_word {met : List (List UInt8)} {j : Jb} {s x : List UInt8} {l : List (List UInt8)} (h : fieldsL s = some (x :: l)) (hk : keyL.find? (fun k => decide (k.w = x)) = none) : lineM met j s = (2, zeroJ, met) := by unfold lineM; rw [h]; simp only; rw [hk]
theorem line_twice {met : List (List UInt8)} {j : Jb} {s x : List UInt8} {l : List (List UInt8)} {k : Ky} (h : fieldsL s = some (x :: l)) (hk : keyL.find? (fun k => decide (k.w = x)) = some k) (hm : k.w ∈ met) : lineM met j s = (3, zeroJ, met) := by unfold lineM; rw [h]; simp only; rw [hk]; simp only; rw [if_pos hm]
theorem line_take {met : List (List UInt8)} {j : Jb} {s x : List UInt8} {l : List (List UInt8)} {k : Ky} (h : fieldsL s = some (x :: l)) (hk : keyL.find? (fun k => decide (k.w = x)) = some k) (hm : k.w ∉ met) : lineM met j s = ((takeM k l j).1, (takeM k l j).2, k.w :: met) := by unfold lineM; rw [h]; simp only; rw [hk]; simp only; rw [if_neg hm]

set_option maxHeartbeats 1000000 in
set_option maxRecDepth 100000 in
theorem read_none (G : Nat → Prop) (M : Nat) (cs : List Value) (j : Jb) (met : List (List UInt8)) (s : List UInt8) (w : World) (h : JobG G w cs j) (hM : MetW w M met) (hs : s.length ≤ 900000) (hf : fieldsL s = none) :
    Calls Tryz.prog 30 #[.agg cs.toArray, .map (some M), .string (tx s)] w (GivesRd G M (1, zeroJ, met) w) := by
  obtain ⟨hX, hR, hB⟩ := two_jobs cs w h.length
  have HL := Lib.hid h.length
  have KF := fun w => lexFields_row (tx s) w (by rw [tx_size]; omega)
  rw [data_tx, hf] at KF
  have HF := Lib.hid KF
  have HR := Lib.hid hR; have HB := Lib.hid hB; have HM := Lib.hid (hM.up hB)
  have hMl := hM.lt
  obtain ⟨w2, hw2⟩ : ∃ w2, (w.alloc (.cells cs.toArray 29)).alloc (.cells zeroL.toArray 29) = w2 := ⟨_, rfl⟩
  rw [hw2] at HR HB HM
  have HW := Lib.hid hw2
  generalize tx s = S at *
  clear hX hR hB h hM hf KF hw2
  go_enter Tryz.func30, Tryz.ntmps30
  go_wp2_with (refine wpList_alloc_to rfl 29 rfl _ _ (job_alloc _) ?_; simp only [Act.put, HW.out, World.size_alloc, List.setIfInBounds_toArray, List.set_cons_succ, List.set_cons_zero])
  refine (HF.out _).mono ?_
  rintro e w3 ⟨v, rfl, hr, hb⟩
  have HR3 := Lib.hid (HR.out.later (by decide) hb); have HB3 := Lib.hid (up_trans HB.out hb); have HM3 := Lib.hid (HM.out.up hb)
  clear hb hr HR HB HM
  simp only [Option.isSome_none]
  go_wp2_with (first
    | (refine wpList_zero_job rfl rfl ?_; simp only [Act.put, List.setIfInBounds_toArray, List.set_cons_succ, List.set_cons_zero])
    | (refine wpList_store_job rfl _ _ rfl (w.heap.size + 1) rfl zeroL zeroL rfl HR3.out rfl rfl zeroL_one ?_; simp only [Act.put]))
  have HS := HR3.out.sets (ws := zeroL) rfl
  exact end_read (r := (1, zeroJ, met)) Tryz.results30 zeroL _ (by rfl) (by rfl) (by rfl) HS zeroL_job (metW_sets HM3.out (by omega) _) (But.of (below_setCells (by omega) _ _ _ HB3.out))
end Go.Proofs.YtenigkjonegdmaaGreatDoor
/- What ticket's read answers, of blank lines, of no key, of a key that was met, of a new one. -/
namespace Go.Proofs.YtenigkjonegdmaaGreatDoor
open Go.RowKit
set_option linter.unusedVariables false
set_option linter.unusedSimpArgs false

set_option maxHeartbeats 1000000 in
set_option maxRecDepth 100000 in
theorem read_blank (G : Nat → Prop) (M : Nat) (cs : List Value) (j : Jb) (met : List (List UInt8)) (s : List UInt8) (w : World) (h : JobG G w cs j) (hM : MetW w M met) (hs : s.length ≤ 900000) (hf : fieldsL s = some []) :
    Calls Tryz.prog 30 #[.agg cs.toArray, .map (some M), .string (tx s)] w (GivesRd G M (0, j, met) w) := by
  obtain ⟨hX, hR, hB⟩ := two_jobs cs w h.length
  have HL := Lib.hid h.length
  have hJ := h.old.up hB
  have KF := fun w => lexFields_row (tx s) w (by rw [tx_size]; omega)
  rw [data_tx, hf] at KF
  have HF := Lib.hid KF
  have HX := Lib.hid hX; have HR := Lib.hid hR; have HB := Lib.hid hB; have HM := Lib.hid (hM.up hB); have HJ := Lib.hid hJ
  have hMl := hM.lt
  obtain ⟨w2, hw2⟩ : ∃ w2, (w.alloc (.cells cs.toArray 29)).alloc (.cells zeroL.toArray 29) = w2 := ⟨_, rfl⟩
  rw [hw2] at HX HR HB HM HJ
  have HW := Lib.hid hw2
  generalize tx s = S at *
  clear hX hR hB h hM hf KF hw2 hJ
  go_enter Tryz.func30, Tryz.ntmps30
  go_wp2_with (refine wpList_alloc_to rfl 29 rfl _ _ (job_alloc _) ?_; simp only [Act.put, HW.out, World.size_alloc, List.setIfInBounds_toArray, List.set_cons_succ, List.set_cons_zero])
  refine (HF.out _).mono ?_
  rintro e w3 ⟨v, rfl, hr, hb⟩
  obtain ⟨a, c, rfl, -⟩ := hr.texF
  have HX3 := Lib.hid (HX.out.later (by rw [HL.out]; decide) hb); have HR3 := Lib.hid (HR.out.later (by decide) hb); have HB3 := Lib.hid (up_trans HB.out hb); have HM3 := Lib.hid (HM.out.up hb); have HJ3 := Lib.hid (HJ.out.up hb)
  clear hb hr HX HR HB HM HJ
  simp only [Option.isSome_some, Option.getD_some, List.length_nil]
  go_wp2_with (first
    | (refine wpList_load_job rfl _ rfl w.heap.size rfl cs HX3.out HL.out ?_; simp only [Act.put, List.setIfInBounds_toArray, List.set_cons_succ, List.set_cons_zero])
    | (refine wpList_store_job rfl _ _ rfl (w.heap.size + 1) rfl zeroL cs rfl HR3.out rfl HL.out HJ3.out.one ?_; simp only [Act.put]))
  have HS := HR3.out.sets (ws := cs) (by rw [HL.out]; rfl)
  obtain ⟨g1, g2⟩ := give_job HJ3.out HB3.out (B := w.heap.size + 1) (by omega)
  exact end_read (r := (0, j, met)) Tryz.results30 cs _ (by rfl) (by rfl) (by rfl) HS g1 (metW_sets HM3.out (by omega) _) (But.of g2)

set_option maxHeartbeats 2000000 in
set_option maxRecDepth 100000 in
theorem read_word (G : Nat → Prop) (M : Nat) (cs : List Value) (j : Jb) (met : List (List UInt8)) (s x : List UInt8) (l : List (List UInt8)) (w : World) (h : JobG G w cs j) (hM : MetW w M met) (hs : s.length ≤ 900000) (hf : fieldsL s = some (x :: l)) (hk : keyL.find? (fun k => decide (k.w = x)) = none) :
    Calls Tryz.prog 30 #[.agg cs.toArray, .map (some M), .string (tx s)] w (GivesRd G M (2, zeroJ, met) w) := by
  obtain ⟨hX, hR, hB⟩ := two_jobs cs w h.length
  have HL := Lib.hid h.length
  have KF := fun w => lexFields_row (tx s) w (by rw [tx_size]; omega)
  rw [data_tx, hf] at KF
  have HF := Lib.hid KF
  have KK := fun w => find_any x w
  rw [hk] at KK
  have HK := Lib.hid KK
  have HR := Lib.hid hR; have HB := Lib.hid hB; have HM := Lib.hid (hM.up hB)
  have hMl := hM.lt
  obtain ⟨w2, hw2⟩ : ∃ w2, (w.alloc (.cells cs.toArray 29)).alloc (.cells zeroL.toArray 29) = w2 := ⟨_, rfl⟩
  rw [hw2] at HR HB HM
  have HW := Lib.hid hw2
  have hll := fieldsL_length hf
  generalize tx s = S at *
  clear hX hR hB h hM hf KF hw2 KK hk
  go_enter Tryz.func30, Tryz.ntmps30
  go_wp2_with (refine wpList_alloc_to rfl 29 rfl _ _ (job_alloc _) ?_; simp only [Act.put, HW.out, World.size_alloc, List.setIfInBounds_toArray, List.set_cons_succ, List.set_cons_zero])
  refine (HF.out _).mono ?_
  rintro e w3 ⟨v, rfl, hr, hb⟩
  obtain ⟨a, c, rfl, hT⟩ := hr.texF
  obtain ⟨g, o, rfl, -, hc, hcap, hmax⟩ := hT.resolve_left (by simp)
  have c0 := hc 0 x rfl
  have HR3 := Lib.hid (HR.out.later (by decide) hb); have HB3 := Lib.hid (up_trans HB.out hb); have HM3 := Lib.hid (HM.out.up hb)
  simp only [Option.isSome_some, Option.getD_some, List.length_cons] at hcap hll ⊢
  obtain ⟨n, hn⟩ : ∃ n, l.length = n := ⟨_, rfl⟩
  rw [hn] at hcap hll ⊢
  rw [Nat.add_zero] at c0
  obtain ⟨X, hX⟩ : ∃ X, tx x = X := ⟨_, rfl⟩
  rw [hX] at c0 HK
  have z1 : (((n + 1 : Nat) : Int) == 0) = false := by simp; omega
  have z2 : (0 : Int) < ((n + 1 : Nat) : Int) := by omega
  clear hb hr HR HB HM hT hc hn hX
  go_wp2_with fail
  refine (HK.out _).mono ?_
  rintro e w4 ⟨rfl, hb⟩
  simp only [Option.isSome_none, Option.getD_none, keyV_zero]
  have hb2 := up_alloc hb (.cells #[.string ⟨#[]⟩, .int .i64 0, .int .i64 0, .int .i64 0, .int .i64 0] 51)
  have HR4 := Lib.hid (HR3.out.later (by decide) hb2); have HB4 := Lib.hid (up_trans HB3.out hb2); have HM4 := Lib.hid (HM3.out.up hb2)
  clear hb hb2 c0 HR3 HB3 HM3
  go_wp2_with (first
    | (refine wpList_zero_job rfl rfl ?_; simp only [Act.put, List.setIfInBounds_toArray, List.set_cons_succ, List.set_cons_zero])
    | (refine wpList_store_job rfl _ _ rfl (w.heap.size + 1) rfl zeroL zeroL rfl HR4.out rfl rfl zeroL_one ?_; simp only [Act.put]))
  have HS := HR4.out.sets (ws := zeroL) rfl
  exact end_read (r := (2, zeroJ, met)) Tryz.results30 zeroL _ (by rfl) (by rfl) (by rfl) HS zeroL_job (metW_sets HM4.out (by omega) _) (But.of (below_setCells (by omega) _ _ _ HB4.out))
end Go.Proofs.YtenigkjonegdmaaGreatDoor
