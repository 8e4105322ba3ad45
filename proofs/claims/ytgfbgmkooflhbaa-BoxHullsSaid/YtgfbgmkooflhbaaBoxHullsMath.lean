/- What the least rectangle about others is: it has them all, and its sides are theirs; plain arithmetic. -/
import Derived.Test.YtgfbgmkooflhbaaBoxHull
namespace Go.Proofs.Ytgfbgmkooflhbaa
open Go.RowKit
set_option linter.unusedVariables false

/-- The rectangle has an inside. -/
def ne4 (p : Rc) : Bool := !emp4 p.x0 p.y0 p.x1 p.y1
/-- Is one of those with an inside such that f? -/
def anyR (f : Rc → Bool) (l : List Rc) : Bool := l.any fun p => ne4 p && f p
theorem anyR_take {l : List Rc} {k : Nat} {p : Rc} (h : l[k]? = some p) (f : Rc → Bool) : anyR f (l.take (k + 1)) = (anyR f (l.take k) || (ne4 p && f p)) := by
  unfold anyR
  rw [List.take_add_one, h]
  simp
theorem ne4_iff (p : Rc) : ne4 p = true ↔ p.x0 < p.x1 ∧ p.y0 < p.y1 := by simp [ne4, emp4]

/-- h is the least rectangle about l. -/
structure About (h : Rc) (l : List Rc) : Prop where
  has : ∀ p ∈ l, ne4 p = true → h.x0 ≤ p.x0 ∧ p.x1 ≤ h.x1 ∧ h.y0 ≤ p.y0 ∧ p.y1 ≤ h.y1
  none : (∀ p ∈ l, ne4 p = false) → h = ⟨0, 0, 0, 0⟩
  some : (∃ p ∈ l, ne4 p = true) → ne4 h = true ∧ (∃ p ∈ l, ne4 p = true ∧ p.x0 = h.x0) ∧ (∃ p ∈ l, ne4 p = true ∧ p.y0 = h.y0) ∧ (∃ p ∈ l, ne4 p = true ∧ p.x1 = h.x1) ∧ (∃ p ∈ l, ne4 p = true ∧ p.y1 = h.y1)

theorem About.snoc {h : Rc} {l : List Rc} (a : About h l) (p : Rc) : About (stepR h p) (l ++ [p]) := by
  obtain ⟨has, none, some⟩ := a
  cases e : ne4 p
  · have ee : emp4 p.x0 p.y0 p.x1 p.y1 = true := by simpa [ne4] using e
    have es : stepR h p = h := by unfold stepR; rw [if_pos ee]
    rw [es]
    refine ⟨?_, ?_, ?_⟩
    · intro q hq hn
      rcases List.mem_append.1 hq with hq | hq
      · exact has q hq hn
      · rw [List.mem_singleton.1 hq, e] at hn; cases hn
    · intro hn
      exact none fun q hq => hn q (List.mem_append.2 (.inl hq))
    · rintro ⟨q, hq, hn⟩
      have hq' : q ∈ l := by
        rcases List.mem_append.1 hq with hq | hq
        · exact hq
        · rw [List.mem_singleton.1 hq, e] at hn; cases hn
      obtain ⟨s0, ⟨q0, m0, t0⟩, ⟨q1, m1, t1⟩, ⟨q2, m2, t2⟩, ⟨q3, m3, t3⟩⟩ := some ⟨q, hq', hn⟩
      exact ⟨s0, ⟨q0, List.mem_append.2 (.inl m0), t0⟩, ⟨q1, List.mem_append.2 (.inl m1), t1⟩, ⟨q2, List.mem_append.2 (.inl m2), t2⟩, ⟨q3, List.mem_append.2 (.inl m3), t3⟩⟩
  · have ee : emp4 p.x0 p.y0 p.x1 p.y1 = false := by simpa [ne4] using e
    have es : stepR h p = aroundR h p := by unfold stepR; rw [if_neg (by rw [ee]; decide)]
    have pe := (ne4_iff p).1 e
    have mp : p ∈ l ++ [p] := by simp
    rw [es]
    by_cases any : ∃ q ∈ l, ne4 q = true
    · obtain ⟨s0, ⟨q0, m0, n0, t0⟩, ⟨q1, m1, n1, t1⟩, ⟨q2, m2, n2, t2⟩, ⟨q3, m3, n3, t3⟩⟩ := some any
      have he := (ne4_iff h).1 s0
      have ea : aroundR h p = ⟨min h.x0 p.x0, min h.y0 p.y0, max h.x1 p.x1, max h.y1 p.y1⟩ := by
        unfold aroundR
        rw [if_neg]
        simp [ne4] at s0
        simp [s0]
      rw [ea]
      refine ⟨?_, ?_, ?_⟩
      · intro q hq hn
        rcases List.mem_append.1 hq with hq | hq
        · have := has q hq hn
          simp only
          omega
        · rw [List.mem_singleton.1 hq]
          simp only
          omega
      · intro hn
        rw [hn p mp] at e; cases e
      · intro _
        refine ⟨(ne4_iff _).2 (by simp only; omega), ?_, ?_, ?_, ?_⟩
        · by_cases g : h.x0 ≤ p.x0
          · exact ⟨q0, List.mem_append.2 (.inl m0), n0, by simp only; omega⟩
          · exact ⟨p, mp, e, by simp only; omega⟩
        · by_cases g : h.y0 ≤ p.y0
          · exact ⟨q1, List.mem_append.2 (.inl m1), n1, by simp only; omega⟩
          · exact ⟨p, mp, e, by simp only; omega⟩
        · by_cases g : p.x1 ≤ h.x1
          · exact ⟨q2, List.mem_append.2 (.inl m2), n2, by simp only; omega⟩
          · exact ⟨p, mp, e, by simp only; omega⟩
        · by_cases g : p.y1 ≤ h.y1
          · exact ⟨q3, List.mem_append.2 (.inl m3), n3, by simp only; omega⟩
          · exact ⟨p, mp, e, by simp only; omega⟩
    · have hz : h = ⟨0, 0, 0, 0⟩ := none fun q hq => by
        cases c : ne4 q
        · rfl
        · exact absurd ⟨q, hq, c⟩ any
      have ea : aroundR h p = p := by
        unfold aroundR
        rw [hz, if_pos (by decide)]
      rw [ea]
      refine ⟨?_, ?_, ?_⟩
      · intro q hq hn
        rcases List.mem_append.1 hq with hq | hq
        · exact absurd ⟨q, hq, hn⟩ any
        · rw [List.mem_singleton.1 hq]; omega
      · intro hn
        rw [hn p mp] at e; cases e
      · intro _
        exact ⟨e, ⟨p, mp, e, rfl⟩, ⟨p, mp, e, rfl⟩, ⟨p, mp, e, rfl⟩, ⟨p, mp, e, rfl⟩⟩
theorem About.more {h : Rc} {l : List Rc} (a : About h l) (m : List Rc) : About (m.foldl stepR h) (l ++ m) := by
  induction m generalizing h l with
  | nil => simpa using a
  | cons p m ih =>
    have := ih (a.snoc p)
    simpa using this
theorem hull_about (l : List Rc) : About (hullR l) l := by
  have z : About ⟨0, 0, 0, 0⟩ [] := ⟨fun p hp => by simp at hp, fun _ => rfl, fun ⟨p, hp, _⟩ => by simp at hp⟩
  have := z.more l
  rwa [List.nil_append] at this

theorem hull_has {l : List Rc} {k : Nat} {p : Rc} (hp : l[k]? = some p) (hn : ne4 p = true) : withinR p.x0 p.y0 p.x1 p.y1 (hullR l).x0 (hullR l).y0 (hullR l).x1 (hullR l).y1 = true := by
  have := (hull_about l).has p (List.mem_of_getElem? hp) hn
  unfold withinR
  simp
  omega
theorem hull_zero {l : List Rc} (h : anyR (fun _ => true) l = false) : hullR l = ⟨0, 0, 0, 0⟩ := by
  refine (hull_about l).none fun p hp => ?_
  have := List.any_eq_false.1 h p hp
  simpa using this
theorem hull_met {l : List Rc} (h : anyR (fun _ => true) l = true) :
    anyR (fun p => p.x0 == (hullR l).x0) l = true ∧ anyR (fun p => p.y0 == (hullR l).y0) l = true ∧ anyR (fun p => p.x1 == (hullR l).x1) l = true ∧ anyR (fun p => p.y1 == (hullR l).y1) l = true := by
  obtain ⟨p, hp, hn⟩ := List.any_eq_true.1 h
  obtain ⟨_, ⟨q0, m0, n0, t0⟩, ⟨q1, m1, n1, t1⟩, ⟨q2, m2, n2, t2⟩, ⟨q3, m3, n3, t3⟩⟩ := (hull_about l).some ⟨p, hp, by simpa using hn⟩
  exact ⟨List.any_eq_true.2 ⟨q0, m0, by simp [n0, t0]⟩, List.any_eq_true.2 ⟨q1, m1, by simp [n1, t1]⟩, List.any_eq_true.2 ⟨q2, m2, by simp [n2, t2]⟩, List.any_eq_true.2 ⟨q3, m3, by simp [n3, t3]⟩⟩
end Go.Proofs.Ytgfbgmkooflhbaa
