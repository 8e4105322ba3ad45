/- Each leaf is one panel's: behind all steps each number stands just once; and what flips tells of a panel's place. -/
import Derived.Test.YtnofncibplgmpaaUnfoldFolded
import Derived.Test.YtnofncibplgmpaaPanels
namespace Go.Proofs.Ytnofncibplgmpaa
set_option linter.unusedVariables false

theorem turned_n (d n c r : Int) (p : Rp) : (turnedM d n c r p).n = p.n := by unfold turnedM; split <;> (try split) <;> (try split) <;> rfl
theorem shift_n (d n : Int) (p : Rp) : (shiftM d n p).n = p.n := by unfold shiftM; split <;> (try split) <;> rfl
theorem step_perm (d n : Int) (u : Bool) (c r : Int) (l : List Rp) : ((stepR d n u c r l).map Rp.n).Perm (l.map Rp.n) := by
  unfold stepR
  rw [List.map_map, show Rp.n ∘ shiftM d n = Rp.n from funext fun p => shift_n d n p]
  have h1 : ((overM d n c r l).reverse.map Rp.n).Perm ((l.filter (movedM d n c r)).map Rp.n) := by
    refine ((List.reverse_perm _).map _).trans ?_
    unfold overM
    rw [List.map_map, show Rp.n ∘ turnedM d n c r = Rp.n from funext fun p => turned_n d n c r p]
  have h2 : ((l.filter (movedM d n c r)).map Rp.n ++ (restM d n c r l).map Rp.n).Perm (l.map Rp.n) := by
    rw [← List.map_append]
    exact (List.filter_append_perm _ _).map _
  cases u
  · simp only [joinU, Bool.false_eq_true, if_false, List.map_append]
    exact (h1.append_right _).trans h2
  · simp only [joinU, if_true, List.map_append]
    exact (List.perm_append_comm.trans (h1.append_right _)).trans h2
theorem go_perm : ∀ (ls : List Sp) (c r : Int) (l : List Rp), ((goL c r l ls).map Rp.n).Perm (l.map Rp.n)
  | [], _, _, _ => List.Perm.refl _
  | p :: ls, c, r, l => (go_perm ls _ _ _).trans (step_perm _ _ _ _ _ _)
theorem init_nums (c r : Int) : (initL c r).map Rp.n = (List.range (c * r).toNat).map (fun k : Nat => (k : Int)) := by
  unfold initL
  rw [List.map_map]
  rfl
/-- The panels of a scheme, from above, as pieces; and by their numbers. -/
def pcL (s : Sc) : List Pc := (foldL s).map toPc
def panL (s : Sc) : List Pn := ofL (pcL s) (pcL s).length
theorem pcL_perm (s : Sc) : ((pcL s).map Pc.n).Perm ((List.range (s.c * s.r).toNat).map (fun k : Nat => (k : Int))) := by
  unfold pcL
  rw [List.map_map, show Pc.n ∘ toPc = Rp.n from rfl, ← init_nums]
  exact go_perm _ _ _ _
theorem pcL_length (s : Sc) : (pcL s).length = (s.c * s.r).toNat := by
  have := (pcL_perm s).length_eq
  simpa using this
theorem panL_length (s : Sc) : (panL s).length = (s.c * s.r).toNat := by unfold panL; rw [ofL_length, pcL_length]
theorem pcL_num (s : Sc) (k : Nat) (hk : k < (pcL s).length) : ∃ j : Nat, j < (pcL s).length ∧ ((pcL s)[k]'hk).n = (j : Int) := by
  have h : ((pcL s)[k]'hk).n ∈ (pcL s).map Pc.n := List.mem_map.2 ⟨_, List.getElem_mem _, rfl⟩
  rw [(pcL_perm s).mem_iff] at h
  obtain ⟨j, hj, e⟩ := List.mem_map.1 h
  exact ⟨j, by rw [pcL_length]; exact List.mem_range.1 hj, e.symm⟩
theorem pcL_leaf (s : Sc) (j : Nat) (hj : j < (pcL s).length) : ∃ (k : Nat) (hk : k < (pcL s).length), ((pcL s)[k]'hk).n = (j : Int) := by
  have h : (j : Int) ∈ (List.range (s.c * s.r).toNat).map (fun k : Nat => (k : Int)) := List.mem_map.2 ⟨j, List.mem_range.2 (by rw [← pcL_length]; exact hj), rfl⟩
  rw [← (pcL_perm s).mem_iff] at h
  obtain ⟨p, hp, e⟩ := List.mem_map.1 h
  obtain ⟨k, hk, e2⟩ := List.mem_iff_getElem.1 hp
  exact ⟨k, hk, by rw [e2]; exact e⟩
theorem pcL_nodup (s : Sc) {i k : Nat} (hi : i < (pcL s).length) (hk : k < (pcL s).length) (h : ((pcL s)[i]'hi).n = ((pcL s)[k]'hk).n) : i = k := by
  have hn : ((pcL s).map Pc.n).Nodup := by
    rw [(pcL_perm s).nodup_iff]
    refine List.Pairwise.map _ (S := fun a b => a ≠ b) (fun a b h => ?_) (List.nodup_range (n := (s.c * s.r).toNat))
    omega
  rw [List.Nodup, List.pairwise_iff_getElem] at hn
  by_cases e : i = k
  · exact e
  · exfalso
    rcases Nat.lt_or_gt_of_ne e with h1 | h1
    · refine hn i k (by simpa using hi) (by simpa using hk) h1 ?_
      simpa using h
    · refine hn k i (by simpa using hk) (by simpa using hi) h1 ?_
      simpa using h.symm

/-- What stands at a panel's number. -/
theorem ofL_at (l : List Pc) (hd : ∀ i k (hi : i < l.length) (hk : k < l.length), l[i].n = l[k].n → i = k) (hb : ∀ k (hk : k < l.length), ∃ j : Nat, j < l.length ∧ l[k].n = (j : Int)) (k : Nat) (hk : k < l.length) (j : Nat) (hj : l[k].n = (j : Int)) :
    ∀ n, k < n → n ≤ l.length → (ofL l n)[j]? = some ⟨(k : Int), l[k].fx, l[k].fy⟩
  | 0, h, _ => by omega
  | n + 1, h, h1 => by
    rw [ofL_succ]
    unfold ofStep
    have hn : n < l.length := by omega
    rw [List.getElem?_eq_getElem hn]
    simp only [Option.getD_some]
    obtain ⟨j', hj', ej⟩ := hb n hn
    have hjl : j < l.length := by
      obtain ⟨j2, h2, e2⟩ := hb k hk
      omega
    by_cases e : k = n
    · subst e
      have : (l[k].n).toNat = j := by omega
      rw [this, List.getElem?_set_self (by rw [ofL_length]; exact hjl)]
    · have : (l[n].n).toNat ≠ j := by
        intro e2
        exact e (hd k n hk hn (by omega))
      rw [List.getElem?_set_ne this]
      exact ofL_at l hd hb k hk j hj n (by omega) (by omega)
theorem panL_at (s : Sc) (j : Nat) (hj : j < (pcL s).length) : ∃ (k : Nat) (hk : k < (pcL s).length), ((pcL s)[k]'hk).n = (j : Int) ∧ (panL s)[j]? = some ⟨(k : Int), ((pcL s)[k]'hk).fx, ((pcL s)[k]'hk).fy⟩ := by
  obtain ⟨k, hk, e⟩ := pcL_leaf s j hj
  exact ⟨k, hk, e, ofL_at _ (fun i k hi hk h => pcL_nodup s hi hk h) (fun k hk => pcL_num s k hk) k hk j e _ hk (Nat.le_refl _)⟩

/-- How a panel lies, and where, and where it was, agree in all panels. -/
def bI (b : Bool) : Int := if b = true then 1 else 0
def ParX (C K : Int) (l : List Rp) : Prop := ∀ p ∈ l, (bI p.fx + p.col + p.n.tmod C) % 2 = K
def ParY (C K : Int) (l : List Rp) : Prop := ∀ p ∈ l, (bI p.fy + p.row + p.n.tdiv C) % 2 = K
theorem bI_not (b : Bool) : bI (!b) = 1 - bI b := by cases b <;> rfl
theorem step_mem {d n c r : Int} {u : Bool} {l : List Rp} {p : Rp} (h : p ∈ stepR d n u c r l) : ∃ q ∈ l, p = shiftM d n q ∨ p = shiftM d n (turnedM d n c r q) := by
  obtain ⟨q, hq, rfl⟩ := List.mem_map.1 h
  have hq : q ∈ restM d n c r l ∨ q ∈ overM d n c r l := by
    unfold joinU at hq
    cases u
    · simp at hq; exact hq.symm
    · simpa using hq
  rcases hq with hq | hq
  · exact ⟨q, (List.mem_filter.1 hq).1, .inl rfl⟩
  · obtain ⟨q', h0, rfl⟩ := List.mem_map.1 hq
    exact ⟨q', (List.mem_filter.1 h0).1, .inr rfl⟩
theorem step_parX {C d n c r K : Int} {u : Bool} {l : List Rp} (h : ParX C K l) : ∃ K', ParX C K' (stepR d n u c r l) := by
  refine ⟨if d = 1 then (K + n) % 2 else K, fun p hp => ?_⟩
  obtain ⟨q, hq, e⟩ := step_mem hp
  have k := h q hq
  rcases e with rfl | rfl <;> unfold shiftM <;> (try unfold turnedM) <;> (repeat' split) <;> (try simp only [bI_not]) <;> omega
theorem step_parY {C d n c r K : Int} {u : Bool} {l : List Rp} (h : ParY C K l) : ∃ K', ParY C K' (stepR d n u c r l) := by
  refine ⟨if d = 3 then (K + n) % 2 else K, fun p hp => ?_⟩
  obtain ⟨q, hq, e⟩ := step_mem hp
  have k := h q hq
  rcases e with rfl | rfl <;> unfold shiftM <;> (try unfold turnedM) <;> (repeat' split) <;> (try simp only [bI_not]) <;> omega
theorem go_parX (C : Int) : ∀ (ls : List Sp) (c r K : Int) (l : List Rp), ParX C K l → ∃ K', ParX C K' (goL c r l ls)
  | [], _, _, K, _, h => ⟨K, h⟩
  | p :: ls, c, r, K, l, h => by
    obtain ⟨K1, h1⟩ := step_parX (d := p.d) (n := p.n) (c := c) (r := r) (u := p.u) h
    exact go_parX C ls _ _ K1 _ h1
theorem go_parY (C : Int) : ∀ (ls : List Sp) (c r K : Int) (l : List Rp), ParY C K l → ∃ K', ParY C K' (goL c r l ls)
  | [], _, _, K, _, h => ⟨K, h⟩
  | p :: ls, c, r, K, l, h => by
    obtain ⟨K1, h1⟩ := step_parY (d := p.d) (n := p.n) (c := c) (r := r) (u := p.u) h
    exact go_parY C ls _ _ K1 _ h1
theorem fold_parX (s : Sc) : ∃ K, ParX s.c K (foldL s) := go_parX s.c _ _ _ 0 _ (fun p hp => by
  obtain ⟨k, hk, rfl⟩ := List.mem_map.1 hp
  show ((0 : Int) + (k : Int).tmod s.c + (k : Int).tmod s.c) % 2 = 0
  generalize (k : Int).tmod s.c = q
  omega)
theorem fold_parY (s : Sc) : ∃ K, ParY s.c K (foldL s) := go_parY s.c _ _ _ 0 _ (fun p hp => by
  obtain ⟨k, hk, rfl⟩ := List.mem_map.1 hp
  show ((0 : Int) + (k : Int).tdiv s.c + (k : Int).tdiv s.c) % 2 = 0
  generalize (k : Int).tdiv s.c = q
  omega)
/-- All panels lie at one place in the end. -/
theorem go_in : ∀ (ls : List Sp) (c r : Int) (l : List Rp), InR c r l → allM c r ls = (1, 1, true) → InR 1 1 (goL c r l ls)
  | [], c, r, l, h, e => by
    unfold allM at e
    simp only [Prod.mk.injEq] at e
    obtain ⟨rfl, rfl, _⟩ := e
    exact h
  | p :: ls, c, r, l, h, e => by
    obtain ⟨h1, h2⟩ := allM_first e
    exact go_in ls _ _ _ (step_in h1 h) h2
theorem fold_in {s : Sc} (h : rightM s = true) : InR 1 1 (foldL s) := by
  obtain ⟨hc, hr, _, _, ha⟩ := right_bounds h
  exact go_in _ _ _ _ (init_in hc.1 hr.1) ha
/-- What panels' flips are, by their numbers. -/
theorem pan_flips {s : Sc} (h : rightM s = true) : ∃ K L, ∀ j (hj : j < (panL s).length), (bI ((panL s)[j]'hj).fx + (j : Int).tmod s.c) % 2 = K ∧ (bI ((panL s)[j]'hj).fy + (j : Int).tdiv s.c) % 2 = L := by
  obtain ⟨K, hK⟩ := fold_parX s
  obtain ⟨L, hL⟩ := fold_parY s
  refine ⟨K, L, fun j hj => ?_⟩
  have hj2 : j < (pcL s).length := by rw [pcL_length, ← panL_length]; exact hj
  obtain ⟨k, hk, e1, e2⟩ := panL_at s j hj2
  rw [List.getElem?_eq_getElem hj, Option.some.injEq] at e2
  rw [e2]
  have hkf : k < (foldL s).length := by simpa [pcL] using hk
  have hm : (foldL s)[k] ∈ foldL s := List.getElem_mem hkf
  have hp : (pcL s)[k] = toPc ((foldL s)[k]) := by simp [pcL]
  rw [hp] at e1 ⊢
  have i := fold_in h _ hm
  have kx := hK _ hm
  have ky := hL _ hm
  simp only [toPc] at e1 ⊢
  rw [e1] at kx ky
  omega
end Go.Proofs.Ytnofncibplgmpaa
