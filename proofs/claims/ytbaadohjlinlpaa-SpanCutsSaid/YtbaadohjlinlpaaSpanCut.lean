/- What span.Cut answers: a span's parts, where it is cut ahead of each of the numbers that is its own. -/
import Derived.Test.YtbaadohjlinlpaaSpanInside
import Derived.Deep.RegionHeld3
import Derived.Deep.DeepCutAuto
import Derived.Deep.Light
namespace Go.Proofs.Ytbaadohjlinlpaa
open Go.RowKit Go.Sort
set_option linter.unusedVariables false

/-- The parts that end at the numbers, one behind the other, from lo on, behind those that are there. -/
def cutGo : List Int → Int → List (Int × Int) → List (Int × Int)
  | [], _, ps => ps
  | hi :: es, lo, ps => cutGo es hi (addS ps lo hi)
/-- The last of the numbers, or lo. -/
def lastOf : List Int → Int → Int
  | [], lo => lo
  | hi :: es, _ => lastOf es hi
theorem cutGo_snoc (es : List Int) (x lo : Int) (ps : List (Int × Int)) : cutGo (es ++ [x]) lo ps = addS (cutGo es lo ps) (lastOf es lo) x := by
  induction es generalizing lo ps with
  | nil => rfl
  | cons h es ih => exact ih h _
theorem lastOf_snoc (es : List Int) (x lo : Int) : lastOf (es ++ [x]) lo = x := by
  induction es generalizing lo with
  | nil => rfl
  | cons h es ih => exact ih h
theorem cutGo_le (es : List Int) (lo : Int) (ps : List (Int × Int)) : (cutGo es lo ps).length ≤ ps.length + es.length := by
  induction es generalizing lo ps with
  | nil => simp [cutGo]
  | cons h es ih => have := ih h (addS ps lo h); have := addS_le ps lo h; simp only [cutGo, List.length_cons]; omega
def endsS (a0 a1 : Int) (zs : List Int) : List Int := srt (fil a0 a1 zs) ++ [a1]
def cutS (a0 a1 : Int) (zs : List Int) : List (Int × Int) := cutGo (endsS a0 a1 zs) a0 []

theorem rowI_form {w : World} {base : Nat} {v : Value} {l : List Int} (h : rowI w base v l) (hl : 0 < l.length) :
    ∃ g cap, v = .slice (some ⟨g, 0, none⟩) l.length cap ∧ base ≤ g ∧ g < w.heap.size ∧ ∀ i x, l[i]? = some x → w.cell? ⟨g, i, none⟩ = some (.int .i64 x) := by
  obtain ⟨g, cap, hv, hb, hlt⟩ := World.ownsRow.form h hl
  subst hv
  have hc := World.ownsRow.cells h (g := g) rfl
  have ad : ∀ j, (⟨g, 0, none⟩ : Addr).add j = ⟨g, j, none⟩ := fun j => by unfold Addr.add; split <;> simp_all
  refine ⟨g, cap, rfl, hb, hlt, fun i x hx => ?_⟩
  have c0 := hc i (.int .i64 x) (by simp [hx])
  rw [ad] at c0
  exact c0

/-- The slot holds the numbers es, in new memory. -/
def EndsAt (B : Nat) (w1 : World) (es : List Int) (s : Value) (wx : World) : Prop := rowI wx B s es ∧ Below w1.heap.size w1 wx
def CutRel (es : List Int) (a0 : Int) (w2 : World) (v lo i : Value) (wr : World) : Prop :=
  ∃ k : Nat, k ≤ es.length ∧ i = .int .i64 (k : Int) ∧ lo = .int .i64 (lastOf (es.take k) a0) ∧ rowS wr w2.heap.size v (cutGo (es.take k) a0 []) ∧ Below w2.heap.size w2 wr

set_option maxHeartbeats 4000000 in
theorem cut_core (a0 a1 : Int) (l : List Int) (at_ : Value) (w : World) (hl : l.length ≤ 60)
    (KI : ∀ w', Below w.heap.size w w' → Calls Try.prog 20 #[.agg #[.int .i64 a0, .int .i64 a1], at_] w' (GivesI w'.heap.size l w')) :
    Calls Try.prog 16 #[.agg #[.int .i64 a0, .int .i64 a1], at_] w (Filled w.heap.size (cutGo (l ++ [a1]) a0 []) w) := by
  have HI := Lib.hid KI; clear KI
  obtain ⟨i0, hi0, hz0, hz1, hz2⟩ := info_parts Try.infoInt
  go_enter Try.func16, Try.ntmps16
  go_upto_region 1 with fail
  have b0 : (w.alloc (.cells #[.int .i64 a0, .int .i64 a1] 23)).cell? ⟨w.heap.size, 0, none⟩ = some (.int .i64 a0) := by simp
  have b1 : (w.alloc (.cells #[.int .i64 a0, .int .i64 a1] 23)).cell? ⟨w.heap.size, 1, none⟩ = some (.int .i64 a1) := by simp
  have hup : Below w.heap.size w (w.alloc (.cells #[.int .i64 a0, .int .i64 a1] 23)) := up_alloc (Below.refl _ _) _
  generalize (w.alloc (.cells #[.int .i64 a0, .int .i64 a1] 23)) = w1 at *
  have HU := Lib.hid hup
  have B0 := Lib.hid b0
  have B1 := Lib.hid b1
  clear hup b0 b1
  go_cut [5] (fun s wx => EndsAt w1.heap.size w1 (l ++ [a1]) s wx)
  case first =>
    have KS : ∀ w' : World, Below w1.heap.size w1 w' → w'.cell? ⟨w.heap.size, 0, none⟩ = some (.int .i64 a0) ∧ w'.cell? ⟨w.heap.size, 1, none⟩ = some (.int .i64 a1) := fun w' hb => ⟨bl_cell hb B0.out, bl_cell hb B1.out⟩
    have HKS := Lib.hid KS
    clear KS
    have hlen : l.length + 1 ≤ maxLen := by unfold maxLen; omega
    have hbytes : (l.length + 1) * 8 ≤ 140737488355328 := by omega
    go_region_held3 (fun w' => w'.cell? ⟨w.heap.size, 0, none⟩ = some (.int .i64 a0) ∧ w'.cell? ⟨w.heap.size, 1, none⟩ = some (.int .i64 a1))
      ((refine HKS.out _ ?_; first | exact hbw3 | (repeat (first | exact Below.refl _ _ | apply up_drew | apply up_alloc | (refine up_trans ?_ hb2)))))
      (first
        | (go_at_call 20; (refine Calls.mono (HI.out _ (up_trans HU.out (by repeat (first | exact Below.refl _ _ | apply up_drew | apply up_alloc)))) ?_); rintro e w2 ⟨v, rfl, hr, hb2⟩; have hr2 : rowI w2 w1.heap.size v l := hr.mono (by simp))
        | (refine step_append_lies _ (by rfl) _ _ _ (by rfl) w1.heap.size 3 i0 _ 1 8 Try.underlying30 hi0 hz0 hz1 hz2 rfl (by omega) v l.length (l.map (Value.int .i64)) (by rfl) (hr2.alloc _)
            ⟨w2.heap.size, 0, none⟩ 1 1 [.int .i64 a1] (by rfl) (by rfl) (World.news_of_block (cs := #[.int .i64 a1]) (t := 3) (fr := (0, 0)) (heap_alloc_new w2 _)) (by simp [Value.oneCell']) (by omega) hlen hbytes (by have := hb2.size; simp at this ⊢; omega) _ rfl ?_
           intro g cap w3 hown hgrow hat hlt
           have hbw3 : Below w1.heap.size w1 w3 := Below.grown (up_alloc (up_trans (up_drew (Below.refl _ _)) hb2) _) hgrow (by have := hb2.size; simp at this ⊢; omega) (fun k hk => (hr2.lt k hk).1))
        | (refine step_append_lies _ (by rfl) _ _ _ (by rfl) w1.heap.size 3 i0 _ 1 8 Try.underlying30 hi0 hz0 hz1 hz2 rfl (by omega) v l.length (l.map (Value.int .i64)) (by rfl) hr2
            ⟨w1.heap.size, 0, none⟩ 1 1 [.int .i64 a1] (by rfl) (by rfl) (World.news_of_block (cs := #[.int .i64 a1]) (t := 3) (fr := (0, 0)) ((hb2.block w1.heap.size (by simp)).trans (heap_alloc_new w1.drew _))) (by simp [Value.oneCell']) (by omega) hlen hbytes (by have := hb2.size; simp at this ⊢; omega) _ rfl ?_
           intro g cap w3 hown hgrow hat hlt
           have hbw3 : Below w1.heap.size w1 w3 := Below.grown (up_trans (up_alloc (up_drew (Below.refl _ _)) _) hb2) hgrow (by have := hb2.size; simp at this ⊢; omega) (fun k hk => (hr2.lt k hk).1)))
    all_goals
      have HO1 := Lib.hid hown
      have HB3 := Lib.hid hbw3
      go_wp2_with fail
      go_meet
      refine ⟨?_, HB3.out⟩
      unfold rowI
      rw [List.length_append, List.map_append]
      exact HO1.out
  case rest =>
    obtain ⟨hrow, hbel⟩ := hcut
    obtain ⟨g, cap, rfl, hg, hglt, hcells⟩ := rowI_form hrow (by simp)
    obtain ⟨n, hn⟩ : ∃ n, (l ++ [a1]).length = n := ⟨_, rfl⟩
    have hn2 : n ≤ 61 := by rw [← hn]; simp; omega
    have hn3 : 0 < n := by rw [← hn]; simp
    have HC := Lib.hid hcells
    have HN := Lib.hid hn
    have c0 := bl_cell hbel B0.out
    have c1 := bl_cell hbel B1.out
    have HB := Lib.hid (up_trans HU.out hbel)
    rw [hn]
    clear hrow hcells hn hbel hg
    go_wp2
    go_loopw [6, 7, 21] (fun v lo i wr => CutRel (l ++ [a1]) a0 wc v lo i wr) (fun _ _ i _ => n - (intOf i).toNat)
    case atStart => exact ⟨0, by omega, by go_num, rfl, World.ownsRow_nil _ _ _ _, Below.refl _ _⟩
    case round =>
      obtain ⟨k, hk, rfl, rfl, hrow, hbel⟩ := hrel
      rw [HN.out] at hk
      have hsz := hbel.size
      by_cases hlt : k < n
      · obtain ⟨x, hx⟩ : ∃ x, (l ++ [a1])[k]? = some x := ⟨(l ++ [a1])[k]'(by rw [HN.out]; exact hlt), List.getElem?_eq_getElem _⟩
        have hcell : wr.cell? ⟨g, k, none⟩ = some (.int .i64 x) := by rw [hbel.cell (p := ⟨g, k, none⟩) hglt, HC.out k x hx]
        have htk : (l ++ [a1]).take (k + 1) = (l ++ [a1]).take k ++ [x] := by
          rw [List.take_succ_eq_append_getElem (by rw [HN.out]; exact hlt)]
          rw [List.getElem?_eq_getElem (by rw [HN.out]; exact hlt)] at hx
          rw [Option.some.inj hx]
        have T1 := Lib.hid (show lastOf ((l ++ [a1]).take (k + 1)) a0 = x by rw [htk]; exact lastOf_snoc _ _ _)
        have T2 := Lib.hid (show cutGo ((l ++ [a1]).take (k + 1)) a0 [] = addS (cutGo ((l ++ [a1]).take k) a0 []) (lastOf ((l ++ [a1]).take k) a0) x by rw [htk]; exact cutGo_snoc _ _ _ _)
        have hle : (cutGo ((l ++ [a1]).take k) a0 []).length ≤ 61 := by
          have h1 := cutGo_le ((l ++ [a1]).take k) a0 []
          have h2 := List.length_take_le k (l ++ [a1])
          simp only [List.length_nil] at h1
          have h3 := HN.out
          omega
        obtain ⟨lo, hlo⟩ : ∃ lo, lastOf ((l ++ [a1]).take k) a0 = lo := ⟨_, rfl⟩
        rw [hlo] at T2 ⊢
        have HF := Lib.hid (fill_any _ _ _ lo x wr hrow hsz (by omega))
        have HB3 := Lib.hid hbel
        have HX := Lib.hid hx
        clear hrow hbel hx htk hlo
        go_wp2_with (go_at_call 21; refine HF.out.mono ?_; rintro e w3 ⟨v3, rfl, hr3, hb3⟩; have HR3 := Lib.hid hr3; have HBB := Lib.hid hb3; clear hr3 hb3)
        go_roundw
        case rel => exact ⟨k + 1, by rw [HN.out]; omega, by go_num, by rw [T1.out], by rw [T2.out]; exact HR3.out, HB3.out.trans HBB.out⟩
        case measure => simp [intOf]; omega
      · have hk2 : n ≤ k := by omega
        rw [List.take_of_length_le (by rw [HN.out]; omega)] at hrow
        have HR := Lib.hid hrow
        have HB3 := Lib.hid hbel
        clear hrow hbel
        go_wp2
        go_ret
        exact ⟨_, rfl, HR.out.mono HB.out.size, up_trans HB.out HB3.out⟩
end Go.Proofs.Ytbaadohjlinlpaa
