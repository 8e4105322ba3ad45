/- What holds of a span's parts: plain lists and numbers; and span.Cut's contract. -/
import Derived.Test.YtbaadohjlinlpaaSpanCut
namespace Go.Proofs.Ytbaadohjlinlpaa
open Go.RowKit
set_option linter.unusedVariables false

/-- Parts that follow one another from a0 to lo, none empty. -/
structure Chain (a0 lo : Int) (ps : List (Int × Int)) : Prop where
  le : a0 ≤ lo
  each : ∀ (i : Nat) (p : Int × Int), ps[i]? = some p → p.1 < p.2 ∧ a0 ≤ p.1 ∧ p.2 ≤ lo
  none : ps = [] → lo = a0
  head : ∀ p : Int × Int, ps[0]? = some p → p.1 = a0
  last : ∀ (i : Nat) (p : Int × Int), ps.length = i + 1 → ps[i]? = some p → p.2 = lo
  next : ∀ (i : Nat) (p q : Int × Int), ps[i + 1]? = some p → ps[i]? = some q → p.1 = q.2
theorem Chain.nil (a0 : Int) : Chain a0 a0 [] := ⟨Int.le_refl _, fun i p h => by simp at h, fun _ => rfl, fun p h => by simp at h, fun i p h => by simp at h, fun i p q h => by simp at h⟩
theorem getElem?_snoc {α : Type} (l : List α) (x : α) (i : Nat) (p : α) (h : (l ++ [x])[i]? = some p) : l[i]? = some p ∨ (i = l.length ∧ p = x) := by
  rcases Nat.lt_trichotomy i l.length with g | g | g
  · left; rwa [List.getElem?_append_left g] at h
  · right; subst g; simp at h; exact ⟨rfl, h.symm⟩
  · rw [List.getElem?_append_right (by omega)] at h
    rw [List.getElem?_eq_none (by simp; omega)] at h
    cases h
theorem lt_of_get {α : Type} {l : List α} {i : Nat} {p : α} (h : l[i]? = some p) : i < l.length := by
  rcases Nat.lt_or_ge i l.length with g | g
  · exact g
  · rw [List.getElem?_eq_none g] at h; cases h
theorem Chain.add {a0 lo hi : Int} {ps : List (Int × Int)} (h : Chain a0 lo ps) (hl : lo ≤ hi) : Chain a0 hi (addS ps lo hi) := by
  unfold addS
  by_cases he : emp lo hi = true
  · have : hi = lo := by have := emp_t' he; omega
    subst this
    rw [if_pos he]; exact h
  · rw [if_neg he]
    have hlt : lo < hi := emp_f' (by simpa using he)
    have hle := h.le
    refine ⟨by omega, ?_, by simp, ?_, ?_, ?_⟩
    · intro i p hp
      rcases getElem?_snoc _ _ _ _ hp with hp | ⟨_, rfl⟩
      · have := h.each i p hp; exact ⟨this.1, this.2.1, by omega⟩
      · exact ⟨hlt, hle, Int.le_refl _⟩
    · intro p hp
      rcases getElem?_snoc _ _ _ _ hp with hp | ⟨h0, rfl⟩
      · exact h.head p hp
      · exact h.none (List.eq_nil_of_length_eq_zero h0.symm)
    · intro i p hi hp
      rcases getElem?_snoc _ _ _ _ hp with hp | ⟨_, rfl⟩
      · have := lt_of_get hp; simp at hi; omega
      · rfl
    · intro i p q hp hq
      rcases getElem?_snoc _ _ _ _ hq with hq | ⟨h0, rfl⟩
      · rcases getElem?_snoc _ _ _ _ hp with hp | ⟨h1, rfl⟩
        · exact h.next i p q hp hq
        · exact (h.last i q h1.symm hq).symm
      · have := lt_of_get hp; simp at this; omega

/-- .. each, but the first, begins at one of Z; none of S lies within one. -/
structure CutInv (a0 : Int) (Z S : List Int) (lo : Int) (ps : List (Int × Int)) : Prop where
  chain : Chain a0 lo ps
  pts : ∀ (i : Nat) (p : Int × Int), ps[i + 1]? = some p → p.1 ∈ Z
  lo_in : ps ≠ [] → lo ∈ Z
  ni : ∀ (i : Nat) (p : Int × Int), ps[i]? = some p → ∀ z ∈ S, ¬ (p.1 < z ∧ z < p.2)
theorem CutInv.add' {a0 : Int} {Z S : List Int} {lo hi : Int} {ps : List (Int × Int)} (h : CutInv a0 Z S lo ps) (hl : lo ≤ hi) (hS : ∀ z ∈ S, z ≤ lo ∨ hi ≤ z) :
    Chain a0 hi (addS ps lo hi) ∧ (∀ (i : Nat) (p : Int × Int), (addS ps lo hi)[i + 1]? = some p → p.1 ∈ Z) ∧ (∀ (i : Nat) (p : Int × Int), (addS ps lo hi)[i]? = some p → ∀ z ∈ S, ¬ (p.1 < z ∧ z < p.2)) := by
  refine ⟨h.chain.add hl, ?_, ?_⟩
  · intro i p hp
    unfold addS at hp
    split at hp
    · exact h.pts i p hp
    · rcases getElem?_snoc _ _ _ _ hp with hp | ⟨h0, rfl⟩
      · exact h.pts i p hp
      · exact h.lo_in (fun e => by rw [e] at h0; simp at h0)
  · intro i p hp z hz
    unfold addS at hp
    split at hp
    · exact h.ni i p hp z hz
    · rcases getElem?_snoc _ _ _ _ hp with hp | ⟨_, rfl⟩
      · exact h.ni i p hp z hz
      · rintro ⟨g1, g2⟩
        rcases hS z hz with g | g <;> simp only at g1 g2 <;> omega
theorem CutInv.run {a0 : Int} {Z S : List Int} : ∀ (es done : List Int) (lo : Int) (ps : List (Int × Int)), CutInv a0 Z S lo ps → S = done ++ es → List.Pairwise (· ≤ ·) es → (∀ z ∈ done, z ≤ lo) → (∀ z ∈ es, lo ≤ z ∧ z ∈ Z) →
    CutInv a0 Z S (lastOf es lo) (cutGo es lo ps) ∧ ∀ z ∈ S, z ≤ lastOf es lo
  | [], done, lo, ps, h, hS, _, hd, _ => ⟨h, fun z hz => hd z (by rw [hS] at hz; simpa using hz)⟩
  | hi :: es, done, lo, ps, h, hS, hp, hd, he => by
    obtain ⟨hp1, hp2⟩ := List.pairwise_cons.1 hp
    obtain ⟨hlo, hz⟩ := he hi (by simp)
    obtain ⟨c1, c2, c3⟩ := h.add' hlo (fun z hz => by
      rw [hS] at hz
      rcases List.mem_append.1 hz with g | g
      · exact .inl (hd z g)
      · rcases List.mem_cons.1 g with rfl | g
        · exact .inr (Int.le_refl _)
        · exact .inr (hp1 z g))
    refine CutInv.run es (done ++ [hi]) hi (addS ps lo hi) ⟨c1, c2, fun _ => hz, c3⟩ (by rw [hS]; simp) hp2 (fun z hz => ?_) (fun z hz => ⟨hp1 z hz, (he z (by simp [hz])).2⟩)
    rcases List.mem_append.1 hz with g | g
    · have := hd z g; omega
    · simp at g; omega

theorem srt_sorted (l : List Int) : List.Pairwise (· ≤ ·) (srt l) := by
  have := List.pairwise_mergeSort (le := fun x y : Int => decide (x ≤ y)) (by intro a b c; simp; omega) (by intro a b; simp; omega) l
  exact this.imp (by intro a b h; simpa using h)
theorem mem_srt {l : List Int} {x : Int} : x ∈ srt l ↔ x ∈ l := List.mem_mergeSort
theorem mem_fil {a0 a1 : Int} {zs : List Int} {x : Int} : x ∈ fil a0 a1 zs ↔ x ∈ zs ∧ a0 ≤ x ∧ x < a1 := by simp [fil, inS_iff]

theorem cut_empty (a0 a1 : Int) (zs : List Int) (h : a1 ≤ a0) : cutS a0 a1 zs = [] := by
  have e : fil a0 a1 zs = [] := by
    apply List.eq_nil_iff_forall_not_mem.2
    intro x hx
    have := mem_fil.1 hx
    omega
  unfold cutS endsS
  rw [e]
  simp [srt, cutGo, addS, emp_t h]
theorem cut_all (a0 a1 : Int) (zs : List Int) (h : a0 < a1) : Chain a0 a1 (cutS a0 a1 zs) ∧ (∀ (i : Nat) (p : Int × Int), (cutS a0 a1 zs)[i + 1]? = some p → p.1 ∈ zs) ∧ (∀ (i : Nat) (p : Int × Int), (cutS a0 a1 zs)[i]? = some p → ∀ z ∈ zs, ¬ (p.1 < z ∧ z < p.2)) := by
  have hm : ∀ z ∈ srt (fil a0 a1 zs), a0 ≤ z ∧ z < a1 ∧ z ∈ zs := fun z hz => by
    have := mem_fil.1 (mem_srt.1 hz); exact ⟨this.2.1, this.2.2, this.1⟩
  obtain ⟨hI, hle⟩ := CutInv.run (a0 := a0) (Z := zs) (S := srt (fil a0 a1 zs)) (srt (fil a0 a1 zs)) [] a0 [] ⟨Chain.nil a0, fun i p h => by simp at h, fun h => absurd rfl h, fun i p h => by simp at h⟩ (by simp) (srt_sorted _) (by simp) (fun z hz => ⟨(hm z hz).1, (hm z hz).2.2⟩)
  have hlo : lastOf (srt (fil a0 a1 zs)) a0 ≤ a1 := by
    have : ∀ (es : List Int) (lo : Int), lo ≤ a1 → (∀ z ∈ es, z ≤ a1) → lastOf es lo ≤ a1 := by
      intro es
      induction es with
      | nil => intro lo hlo _; exact hlo
      | cons x es ih => intro lo _ hz; exact ih x (hz x (by simp)) (fun z g => hz z (by simp [g]))
    exact this _ _ (by omega) (fun z hz => by have := (hm z hz).2.1; omega)
  obtain ⟨c1, c2, c3⟩ := hI.add' hlo (fun z hz => .inl (hle z hz))
  have e : cutS a0 a1 zs = addS (cutGo (srt (fil a0 a1 zs)) a0 []) (lastOf (srt (fil a0 a1 zs)) a0) a1 := cutGo_snoc _ _ _ _
  rw [e]
  refine ⟨c1, c2, fun i p hp z hz => ?_⟩
  by_cases g : a0 ≤ z ∧ z < a1
  · exact c3 i p hp z (mem_srt.2 (mem_fil.2 ⟨hz, g⟩))
  · have := c1.each i p hp
    omega
theorem cut_rising {a0 a1 : Int} {l : List (Int × Int)} (h : Chain a0 a1 l) : RisingS l a0 a1 := fun i p hp => by
  obtain ⟨h1, h2, h3⟩ := h.each i p hp
  refine ⟨h1, h2, h3, fun j q e hq => ?_⟩
  subst e
  rw [h.next j p q hp hq]
  exact Int.le_refl _
theorem cut_len (a0 a1 : Int) (zs : List Int) (h : zs.length ≤ 60) : (cutS a0 a1 zs).length ≤ 61 := by
  have h1 := cutGo_le (endsS a0 a1 zs) a0 []
  have h2 := List.length_filter_le (inS a0 a1) zs
  unfold cutS
  simp [endsS, srt, fil] at h1 ⊢
  omega

theorem cut_none (a : Option Addr) (cap : Nat) (a0 a1 : Int) (w : World) : Calls Try.prog 16 #[.agg #[.int .i64 a0, .int .i64 a1], .slice a 0 cap] w (Filled w.heap.size (cutS a0 a1 []) w) := by
  have e : cutS a0 a1 [] = cutGo ([] ++ [a1]) a0 [] := by simp [cutS, endsS, srt, fil]
  rw [e]
  exact cut_core a0 a1 [] _ w (by simp) (fun w' _ => inside_none a cap a0 a1 w')
theorem cut_any (b off cap : Nat) (zs : List Int) (a0 a1 : Int) (w : World) (hl : 0 < zs.length) (hm : zs.length ≤ 60) (hb : b < w.heap.size) (hc : ∀ j, j < zs.length → w.cell? ⟨b, off + j, none⟩ = some (.int .i64 (zs.getD j 0))) :
    Calls Try.prog 16 #[.agg #[.int .i64 a0, .int .i64 a1], .slice (some ⟨b, off, none⟩) zs.length cap] w (Filled w.heap.size (cutS a0 a1 zs) w) :=
  cut_core a0 a1 (srt (fil a0 a1 zs)) _ w (by have := List.length_filter_le (inS a0 a1) zs; simp [srt, fil]; omega)
    (fun w' hw => inside_any b off cap zs a0 a1 w' hl hm (Nat.lt_of_lt_of_le hb hw.size) (fun j hj => bl_cell hw (hc j hj)))
end Go.Proofs.Ytbaadohjlinlpaa
