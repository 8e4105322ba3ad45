/- Many decks of pieces, each in memory of its own: what a call makes of one leaves the others. -/
import Derived.Test.YtnofncibplgmpaaPileTurn
import Derived.Test.YtnofncibplgmpaaSheetPart
import Derived.Test.YtnofncibplgmpaaRangeSmall
namespace Go.Proofs.Ytnofncibplgmpaa
open Go.RowKit
set_option linter.unusedVariables false

/-- The decks at the blocks that M tells: R D is where the things of D lie, S D what they are. -/
structure Decks (w : World) (base : Nat) (M : Nat → Prop) (R : Nat → Nat) (S : Nat → List Pc) : Prop where
  dk : ∀ D, M D → Dp w base D (R D) (S D)
  ne : ∀ D, M D → 0 < (S D).length
  far : ∀ D E, M D → M E → D ≠ E → R D ≠ R E

theorem Dp.cross {w : World} {base D R E R' : Nat} {l l' : List Pc} (h : Dp w base D R l) (k : Dp w base E R' l') : R ≠ E := by
  obtain ⟨cap, _, h2⟩ := h.row
  obtain ⟨cur, h3, _⟩ := h2.block
  obtain ⟨cap', k1, _⟩ := k.row
  rintro rfl
  have := (show w.heap[R]? = _ from k1).symm.trans h3
  simp at this
theorem Dp.cellsD {w : World} {base D R : Nat} {l : List Pc} (h : Dp w base D R l) : ∃ v, w.heap[D]? = some (.cells #[v] 61 (0, 0)) := by
  obtain ⟨cap, h1, _⟩ := h.row
  exact ⟨_, h1⟩
theorem Dp.cellsR {w : World} {base D R : Nat} {l : List Pc} (h : Dp w base D R l) : ∃ cur, w.heap[R]? = some (.cells cur 42 (0, 0)) := by
  obtain ⟨cap, _, h2⟩ := h.row
  obtain ⟨cur, h3, _⟩ := h2.block
  exact ⟨cur, h3⟩

theorem Decks.up {w w' : World} {base : Nat} {M : Nat → Prop} {R : Nat → Nat} {S : Nat → List Pc} (h : Decks w base M R S) (hb : Below w.heap.size w w') : Decks w' base M R S := ⟨fun D hD => (h.dk D hD).up hb, h.ne, h.far⟩
theorem Decks.sub {w : World} {base : Nat} {M M' : Nat → Prop} {R : Nat → Nat} {S : Nat → List Pc} (h : Decks w base M R S) (hs : ∀ D, M' D → M D) : Decks w base M' R S := ⟨fun D hD => h.dk D (hs D hD), fun D hD => h.ne D (hs D hD), fun D E hD hE => h.far D E (hs D hD) (hs E hE)⟩
theorem Decks.kept {w w' : World} {base : Nat} {M : Nat → Prop} {R : Nat → Nat} {S : Nat → List Pc} (h : Decks w base M R S) {row : Option Nat} (hg : w.grownBy w' row) (hr : ∀ r, row = some r → ∃ o : Obj, w.heap[r]? = some o ∧ o.isCells = false) : Decks w' base M R S := by
  refine ⟨fun D hD => ?_, h.ne, h.far⟩
  have k := h.dk D hD
  have ne : ∀ b cur t, w.heap[b]? = some (.cells cur t (0, 0)) → some b ≠ row := fun b cur t hb e => by
    obtain ⟨o, ho, hc⟩ := hr b e.symm
    rw [hb] at ho
    cases ho
    cases hc
  obtain ⟨v, hv⟩ := k.cellsD
  obtain ⟨cur, hc⟩ := k.cellsR
  exact k.kept (hg.block D k.ltD (ne _ _ _ hv)) (hg.block _ k.ltR.2 (ne _ _ _ hc))

/-- S, but for D, where l is. -/
def putS (S : Nat → List Pc) (D : Nat) (l : List Pc) : Nat → List Pc := fun E => if E = D then l else S E
theorem putS_at (S : Nat → List Pc) (D : Nat) (l : List Pc) : putS S D l D = l := by simp [putS]
theorem putS_ne {S : Nat → List Pc} {D E : Nat} {l : List Pc} (h : E ≠ D) : putS S D l E = S E := by simp [putS, h]

theorem Decks.made {w w' : World} {base : Nat} {M : Nat → Prop} {R : Nat → Nat} {S : Nat → List Pc} (h : Decks w base M R S) {D : Nat} (hD : M D) {l : List Pc} (hm : MadeP base w D (R D) l w') (hl : 0 < l.length) :
    ∃ R', Decks w' base M R' (putS S D l) ∧ (∀ E, M E → R' E = R E ∨ w.heap.size ≤ R' E) ∧ But D (R D) w w' := by
  obtain ⟨r, h1, h2, h3⟩ := hm
  refine ⟨fun E => if E = D then r else R E, ⟨fun E hE => ?_, fun E hE => ?_, fun E E' hE hE' hne => ?_⟩, fun E hE => ?_, h3⟩
  · by_cases e : E = D
    · subst e
      simpa [putS] using h1
    · have k := h.dk E hE
      have kD := h.dk D hD
      simp only [if_neg e, putS_ne e]
      exact k.but h3 e (fun h => (kD.cross k) h.symm) (k.cross kD) (h.far E D hE hD e)
  · by_cases e : E = D
    · subst e; rw [putS_at]; exact hl
    · rw [putS_ne e]; exact h.ne E hE
  · have lt := fun X (hX : M X) => (h.dk X hX).ltR.2
    by_cases e : E = D
    · subst e
      have e' : E' ≠ E := fun h => hne h.symm
      simp only [if_neg e', if_true]
      rcases h2 with rfl | h2
      · exact h.far E E' hE hE' hne
      · have := lt E' hE'; omega
    · simp only [if_neg e]
      by_cases e' : E' = D
      · subst e'
        simp only [if_true]
        rcases h2 with rfl | h2
        · exact h.far E E' hE hE' hne
        · have := lt E hE; omega
      · simp only [if_neg e']
        exact h.far E E' hE hE' hne
  · by_cases e : E = D
    · subst e; simp only [if_true]; exact h2
    · exact .inl (if_neg e)

/-- What is no cells lies as it lay; so do lists of pointers to piles. -/
theorem But.others {w w' : World} {D R : Nat} (h : But D R w w') (hD : ∃ v t, w.heap[D]? = some (.cells v t (0, 0))) (hR : ∃ v t, w.heap[R]? = some (.cells v t (0, 0))) : KeepsOthers w w' := by
  refine ⟨h.size, fun k o hk ho => (h.block k (Array.getElem?_eq_some_iff.1 hk).1 ?_ ?_).trans hk⟩
  · rintro rfl
    obtain ⟨v, t, e⟩ := hD
    rw [e] at hk; cases hk; cases ho
  · rintro rfl
    obtain ⟨v, t, e⟩ := hR
    rw [e] at hk; cases hk; cases ho
theorem others_below {w w' : World} (h : Below w.heap.size w w') : KeepsOthers w w' := KeepsOthers.of_grownBy (row := none) ⟨h.os, h.tape, h.output, h.size, fun k hk _ => h.block k hk⟩ (fun j o e => by cases e)
def NoS (_ : World) (_ : Nat) : Prop := False
theorem noS_up (V V' : World) (h : Below V.heap.size V V') : KeepS NoS V V' := ⟨h.size, fun b _ ho => ho, fun b cur fr _ hc => (h.block b (Array.getElem?_eq_some_iff.1 hc).1).trans hc⟩
theorem noS_put (W : World) (l : Nat) (o o' : Obj) (hl : W.heap[l]? = some o) (hc : o.isCells = false) : KeepS NoS W (W.putObj l o') :=
  ⟨by simp, fun b _ ho => ho, fun b cur fr _ hb => by
    have hne : b ≠ l := fun e => by rw [e, hl] at hb; cases hb; cases hc
    exact ((grownBy_putObj' W l o').block b (Array.getElem?_eq_some_iff.1 hb).1 (fun e => hne (by injection e))).trans hb⟩
theorem But.keepS {w w' : World} {base D R : Nat} {l : List Pc} (h : But D R w w') (hd : Dp w base D R l) : KeepS NoS w w' := by
  refine ⟨h.size, fun b _ ho => ho, fun b cur fr _ hc => (h.block b (Array.getElem?_eq_some_iff.1 hc).1 ?_ ?_).trans hc⟩
  · rintro rfl
    obtain ⟨v, e⟩ := hd.cellsD
    rw [e] at hc
    injection hc with h1
    injection h1 with _ h2
    exact absurd h2 (by decide)
  · rintro rfl
    obtain ⟨v, e⟩ := hd.cellsR
    rw [e] at hc
    injection hc with h1
    injection h1 with _ h2
    exact absurd h2 (by decide)

theorem Bx.same {w w' : World} {B : Nat} {vs : List Value} (h : Bx w B vs) (e : w'.heap[B]? = w.heap[B]?) : Bx w' B vs :=
  ⟨fun j v hj => (World.cell?_of_block (a := ⟨B, j, none⟩) e).trans (h.1 j v hj), fun j => (World.frozen?_of_block (a := ⟨B, j, none⟩) e).trans (h.2 j)⟩
theorem Gs.same {w w' : World} {G A : Nat} {c r : Int} {l : List Ptr} (h : Gs w G A c r l) (e1 : w'.heap[G]? = w.heap[G]?) (e2 : w'.heap[A]? = w.heap[A]?) : Gs w' G A c r l := ⟨h.box.same e1, h.row.same e2, h.c1, h.c64, h.r1, h.r64, h.len, h.ne⟩
end Go.Proofs.Ytnofncibplgmpaa
