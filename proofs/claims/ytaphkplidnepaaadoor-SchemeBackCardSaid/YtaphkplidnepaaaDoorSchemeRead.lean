/- Rows of steps of the call's own, schemes that a call answers, and what scheme.read answers: for every list of texts. -/
import Derived.Test.YtaphkplidnepaaaDoorSchemeCode
import Derived.Test.YtaphkplidnepaaaDoorStepText
import Derived.LoopN
namespace Go.Proofs.YtaphkplidnepaaaDoor
open Go.RowKit DecMath
set_option linter.unusedVariables false

theorem Tryd.infoStep : (Tryd.prog.info? 48).map (fun i => (i.zero, i.size, i.bytes)) = some (some (.agg #[.int .i64 0, .int .i64 0, .bool false]), 3, 24) := by kernel_rfl
/-- The cells of steps. -/
def flatS : List Sp → List Value
  | [] => []
  | p :: l => .int .i64 p.d :: .int .i64 p.n :: .bool p.u :: flatS l
theorem flatS_snoc (l : List Sp) (p : Sp) : flatS (l ++ [p]) = flatS l ++ [.int .i64 p.d, .int .i64 p.n, .bool p.u] := by
  induction l with
  | nil => rfl
  | cons q l ih => simp [flatS, ih]
theorem flatS_length (l : List Sp) : (flatS l).length = l.length * 3 := by
  induction l with
  | nil => rfl
  | cons q l ih => simp [flatS, ih]; omega
theorem flatS_at (l : List Sp) : ∀ (j : Nat) (p : Sp), l[j]? = some p → (flatS l)[j * 3]? = some (.int .i64 p.d) ∧ (flatS l)[j * 3 + 1]? = some (.int .i64 p.n) ∧ (flatS l)[j * 3 + 2]? = some (.bool p.u) := by
  induction l with
  | nil => intro j p h; simp at h
  | cons q l ih =>
    intro j p h
    cases j with
    | zero => simp at h; subst h; exact ⟨rfl, rfl, rfl⟩
    | succ j =>
      obtain ⟨h0, h1, h2⟩ := ih j p (by simpa using h)
      have e : (j + 1) * 3 = j * 3 + 1 + 1 + 1 := by omega
      rw [e]
      refine ⟨?_, ?_, ?_⟩
      · simpa [flatS] using h0
      · simpa [flatS] using h1
      · simpa [flatS] using h2
/-- v is a slice of the call's own, from block base on, that holds the steps l. -/
def rowP (w : World) (base : Nat) (v : Value) (l : List Sp) : Prop := w.ownsRow base 48 3 v l.length (flatS l)
theorem rowP_nil (w : World) (base : Nat) : rowP w base (.slice none 0 0) [] := World.ownsRow_nil _ _ _ _
theorem rowP.kept {w w' : World} {base : Nat} {v : Value} {l : List Sp} (h : rowP w base v l) (hb : ∀ k, base ≤ k → k < w.heap.size → w'.heap[k]? = w.heap[k]?) : rowP w' base v l := own_kept h hb
theorem rowP.up {w w' : World} {base : Nat} {v : Value} {l : List Sp} (h : rowP w base v l) (hb : Below w.heap.size w w') : rowP w' base v l := h.kept fun k _ hk => hb.block k hk
theorem rowP.steps {w : World} {base : Nat} {v : Value} {l : List Sp} (h : rowP w base v l) : ∃ a cap, v = .slice a l.length cap ∧ InL w a l := by
  rcases h.2 with ⟨rfl, h0⟩ | ⟨g, cap, cur, rfl, hb, hg, hcap, hmax, hsz, htk⟩
  · exact ⟨none, 0, by rw [h0], .inl (List.eq_nil_of_length_eq_zero h0)⟩
  · refine ⟨some ⟨g, 0, none⟩, cap, rfl, .inr ⟨g, 0, rfl, fun j p hp => ?_⟩⟩
    obtain ⟨h0, h1, h2⟩ := flatS_at l j p hp
    have e : ∀ i, (⟨g, 0, none⟩ : Addr).add i = ⟨g, i, none⟩ := fun i => by unfold Addr.add; split <;> simp_all
    have c0 := h.cells (g := g) rfl _ _ h0
    have c1 := h.cells (g := g) rfl _ _ h1
    have c2 := h.cells (g := g) rfl _ _ h2
    rw [e] at c0 c1 c2
    simpa using ⟨c0, c1, c2⟩
theorem rowP.inL {w : World} {base : Nat} {a : Option Addr} {n c : Nat} {l : List Sp} (h : rowP w base (.slice a n c) l) : InL w a l := by
  obtain ⟨a', c', e, hL⟩ := h.steps
  injection e with e1 e2 e3
  rw [e1]
  exact hL
/-- The steps lie where the slice says, in block base or behind it. -/
def InF (base : Nat) (w : World) (a : Option Addr) (l : List Sp) : Prop := l = [] ∨ ∃ b off, a = some ⟨b, off, none⟩ ∧ base ≤ b ∧ InS w b off l
theorem InF.inL {base : Nat} {w : World} {a : Option Addr} {l : List Sp} (h : InF base w a l) : InL w a l := h.imp id fun ⟨b, off, e, _, h⟩ => ⟨b, off, e, h⟩
theorem InF.mono {base base' : Nat} {w : World} {a : Option Addr} {l : List Sp} (h : InF base w a l) (hb : base' ≤ base) : InF base' w a l := h.imp id fun ⟨b, off, e, h0, h⟩ => ⟨b, off, e, by omega, h⟩
theorem InF.up {base : Nat} {w w' : World} {a : Option Addr} {l : List Sp} (h : InF base w a l) (hb : Below w.heap.size w w') : InF base w' a l := h.imp id fun ⟨b, off, e, h0, h⟩ => ⟨b, off, e, h0, h.up hb⟩
theorem InF.set {base : Nat} {w : World} {a : Option Addr} {l : List Sp} (h : InF base w a l) {p : Addr} (hp : p.block < base) (x : Value) : InF base (w.setCell p x) a l := h.imp id fun ⟨b, off, e, h0, h⟩ => ⟨b, off, e, h0, fun j q hq => by
  obtain ⟨c0, c1, c2⟩ := h j q hq
  have hf : ∀ o v, w.cell? ⟨b, o, none⟩ = some v → (w.setCell p x).cell? ⟨b, o, none⟩ = some v := fun o v hv => (World.cell?_setCell_far _ _ _ _ (by simp only; omega)).trans hv
  exact ⟨hf _ _ c0, hf _ _ c1, hf _ _ c2⟩⟩
theorem rowP.inF {w : World} {base : Nat} {a : Option Addr} {n c : Nat} {l : List Sp} (h : rowP w base (.slice a n c) l) : InF base w a l := by
  rcases h.inL with h' | ⟨b, off, rfl, h'⟩
  · exact .inl h'
  · exact .inr ⟨b, off, rfl, by
      rcases h.2 with ⟨e, _⟩ | ⟨g, cap, cur, e, hb, _⟩
      · cases e
      · injection e with e1; injection e1 with e1; injection e1 with e1; omega, h'⟩
theorem rowP.set {w : World} {base : Nat} {v : Value} {l : List Sp} (h : rowP w base v l) {p : Addr} (hp : p.block < base) (x : Value) : rowP (w.setCell p x) base v l := h.kept fun j hj _ => Below.heap_setCell _ _ _ _ (by omega)
theorem cells_three (w : World) (x y z : Value) (t : TypeId) : ∀ j u, [x, y, z][j]? = some u → (w.alloc (.cells #[x, y, z] t)).cell? ((⟨w.heap.size, 0, none⟩ : Addr).add j) = some u := by
  intro j u hj
  match j, hj with
  | 0, hj => simp at hj; subst hj; simp [Addr.add]
  | 1, hj => simp at hj; subst hj; simp [Addr.add]
  | 2, hj => simp at hj; subst hj; simp [Addr.add]
  | j + 3, hj => simp at hj
/-- append, of one step, to a row of the call's own. -/
theorem wpList_append_step {u : World} {ops : Array Oper} {rest : List Oper} {o : Oper} {a : Act} {Q : Exit → Act → World → Prop} (hgd : o.guard = none) (s x : Operand)
    (ho : o.op = .call { callee := .builtin .append, args := #[s, x], argTypes := #[22, 22] })
    (base : Nat) (v : Value) (l : List Sp) (hs : a.eval s = v) (hown : rowP u base v l) (hbase : base ≤ u.heap.size)
    (d n : Int) (b : Bool) (H : Nat) (hH : u.heap.size = H) (hx : a.eval x = .slice (some ⟨H, 0, none⟩) 1 1) (hl : l.length ≤ 1000000)
    (h : ∀ g cap w', rowP w' base (.slice (some ⟨g, 0, none⟩) (l.length + 1) cap) (l ++ [⟨d, n, b⟩]) → Below base u w' → wpList Tryd.prog ops Q rest (a.put o.dst (.slice (some ⟨g, 0, none⟩) (l.length + 1) cap)) w') : wpList Tryd.prog ops Q (o :: rest) a (u.alloc (.cells #[.int .i64 d, .int .i64 n, .bool b] 48)) := by
  subst hH
  obtain ⟨i0, hi, hz0, hz1, hz2⟩ := info_parts Tryd.infoStep
  refine wpList_append_lies _ hgd s x 22 ho base 48 i0 _ 3 24 Tryd.underlying22 hi hz0 hz1 hz2 rfl (by omega) v l.length _ hs (World.ownsRow.alloc hown _) ⟨u.heap.size, 0, none⟩ 1 1 [.int .i64 d, .int .i64 n, .bool b] hx rfl ?_ ?_ (by omega) (by unfold maxLen; omega) (by omega) (by simp; omega) _ rfl ?_
  · exact cells_three u _ _ _ _
  · intro y hy; simp at hy; rcases hy with rfl | rfl | rfl <;> rfl
  intro g cap w1 hown1 hgrow hat hlt
  refine h g cap w1 ?_ (Below.grown ((Below.refl _ _).alloc hbase _) hgrow (by simp; omega) (fun k hk => (hown.lt k hk).1))
  unfold rowP
  rw [List.length_append, flatS_snoc]
  exact hown1

theorem Bx.low {w w' : World} {B base : Nat} {vs : List Value} (h : Bx w B vs) (hB : B < base) (hb : Below base w w') : Bx w' B vs :=
  ⟨fun j v hj => (hb.cell (p := ⟨B, j, none⟩) hB).trans (h.1 j v hj), fun j => (hb.frozen (p := ⟨B, j, none⟩) hB).trans (h.2 j)⟩

/-- The list of texts at a; c: its room. -/
def TxA (w : World) (a : Option Addr) (c : Nat) (ls : List (List UInt8)) : Prop :=
  ls = [] ∨ ∃ g o, a = some ⟨g, o, none⟩ ∧ (∀ i l, ls[i]? = some l → w.cell? ⟨g, o + i, none⟩ = some (.string (tx l))) ∧ ls.length ≤ c ∧ c ≤ maxLen
theorem TxA.up {w w' : World} {a : Option Addr} {c : Nat} {ls : List (List UInt8)} (h : TxA w a c ls) (hb : Below w.heap.size w w') : TxA w' a c ls := by
  rcases h with h | ⟨g, o, h1, h2, h3⟩
  · exact .inl h
  · exact .inr ⟨g, o, h1, fun i l hi => bl_cell hb (h2 i l hi), h3⟩
theorem TxS.arg {w : World} {v : Value} {ls : List (List UInt8)} (h : TxS w v ls) : ∃ a c, v = .slice a ls.length c ∧ TxA w a c ls := by
  obtain ⟨a, c, rfl, h⟩ := h
  refine ⟨a, c, rfl, ?_⟩
  rcases h with h | ⟨g, h1, h2, h3⟩
  · exact .inl h
  · exact .inr ⟨g, 0, h1, fun i l hi => by rw [Nat.zero_add]; exact h2 i l hi, h3⟩

/-- What a call answers that makes a scheme, or says that there is none. -/
def GivesS (F : Option Sc) (w : World) (e : Ending) (w' : World) : Prop :=
  ∃ a cap, e = .returned (.tuple #[.agg #[.int .i64 (F.getD zeroSc).c, .int .i64 (F.getD zeroSc).r, .slice a (F.getD zeroSc).l.length cap], .bool F.isSome]) ∧ InF w.heap.size w' a (F.getD zeroSc).l ∧ Below w.heap.size w w'
theorem gives_none {w w' : World} (hb : Below w.heap.size w w') : GivesS none w (.returned (.tuple #[.agg #[.int .i64 0, .int .i64 0, .slice none 0 0], .bool false])) w' := ⟨none, 0, rfl, .inl rfl, hb⟩
/-- The library's variable that strings.Cut and Split read holds some number. -/
def Mx (w : World) : Prop := ∃ m, w.cell? ⟨0, 0, none⟩ = some (.int .i64 m)
theorem Mx.below {w w' : World} (h : Mx w) (hb : Below w.heap.size w w') : Mx w' := h.imp fun m hm => bl_cell hb hm
/-- All that scheme reads of the library's is as it ought to be. -/
def GoodM (w : World) : Prop := Good w ∧ Mx w
theorem GoodM.below {w w' : World} (h : GoodM w) (hb : Below w.heap.size w w') : GoodM w' := ⟨h.1.below hb, h.2.below hb⟩
theorem up_drewN {a w : World} (h : Below a.heap.size a w) : ∀ n, Below a.heap.size a (w.drewN n)
  | 0 => h
  | n + 1 => up_drew (up_drewN h n)

theorem schRead_len (a : Option Addr) (n cap : Nat) (w : World) (u : Bool) (hu : (decide ((1 : Int) ≤ (n : Int)) && decide ((n : Int) ≤ 7)) = u) (h : u = false) :
    Calls Tryd.prog 32 #[.slice a n cap] w (GivesS none w) := by
  have K := fun w => in_any (n : Int) 1 7 w
  rw [hu, h] at K
  have HK := Lib.hid K
  clear K hu h
  go_enter Tryd.func32, Tryd.ntmps32
  go_wp2_with fail
  refine (HK.out _).mono ?_
  rintro e w1 ⟨rfl, rfl⟩
  go_wp2
  refine bodyPost_ret (v := .tuple #[.agg #[.int .i64 0, .int .i64 0, .slice none 0 0], .bool false]) (by simp [results, Tryd.results32, go_sem]) rfl (gives_none ?_)
  repeat (first | (with_reducible exact Below.refl _ _) | (with_reducible apply up_alloc) | (with_reducible refine up_set ?_ (by simp only; omega) _))

set_option maxHeartbeats 1000000 in
theorem schRead_sides (g o n cap : Nat) (X P Q : ByteArray) (f : Bool) (c r : Int) (u1 u2 : Bool) (w : World) (hx : w.cell? ⟨g, o, none⟩ = some (.string X)) (hn : 1 ≤ n) (hn7 : n ≤ 7) (hu : u1 = false ∨ u2 = false) (hg : GoodM w)
    (KC : ∀ w, Mx w → Calls Tryd.prog 43 #[.string X, .string ⟨#[120]⟩] w fun e w' => e = .returned (.tuple #[.string P, .string Q, .bool f]) ∧ Below w.heap.size w w')
    (KP : ∀ w, Good w → Calls Tryd.prog 44 #[.string P, .int .i64 1, .int .i64 64] w fun e w' => e = .returned (.tuple #[.int .i64 c, .bool u1]) ∧ Below w.heap.size w w')
    (KQ : ∀ w, Good w → Calls Tryd.prog 44 #[.string Q, .int .i64 1, .int .i64 64] w fun e w' => e = .returned (.tuple #[.int .i64 r, .bool u2]) ∧ Below w.heap.size w w') :
    Calls Tryd.prog 32 #[.slice (some ⟨g, o, none⟩) n cap] w (GivesS none w) := by
  have K := fun w => in_any (n : Int) 1 7 w
  rw [show (decide ((1 : Int) ≤ (n : Int)) && decide ((n : Int) ≤ 7)) = true by simp; omega] at K
  have HK := Lib.hid K; have HC := Lib.hid KC; have HP := Lib.hid KP; have HQ := Lib.hid KQ; have G := Lib.hid hg
  clear K KC KP KQ hg
  go_enter Tryd.func32, Tryd.ntmps32
  have A := Bx.new w 24 [.int .i64 0, .int .i64 0, .slice none 0 0]
  have B0 := Lib.hid (up_alloc (Below.refl _ w) (.cells #[.int .i64 0, .int .i64 0, .slice none 0 0] 24))
  have x0 := bl_cell B0.out hx
  have G0 := Lib.hid (G.out.below B0.out)
  go_wp2_with fail
  refine (HK.out _).mono ?_
  rintro e w1 ⟨rfl, rfl⟩
  go_wp2_with fail
  refine (HC.out _ G0.out.2).mono ?_
  rintro e w1 ⟨rfl, hb⟩
  have A1 := A.up hb
  have G1 := Lib.hid (G0.out.below hb)
  have B1 := Lib.hid (up_trans B0.out hb)
  clear hb A
  go_wp2_with fail
  refine (HP.out _ G1.out.1).mono ?_
  rintro e w2 ⟨rfl, hb⟩
  have A2 := A1.up hb
  have G2 := Lib.hid (G1.out.below hb)
  have B2 := Lib.hid (up_trans B1.out hb)
  clear hb A1
  go_wp2_with fail
  refine (HQ.out _ G2.out.1).mono ?_
  rintro e w3 ⟨rfl, hb⟩
  have A3 := A2.up hb
  have B3 := Lib.hid (up_trans B2.out hb)
  clear hb A2
  have a0 := A3.cell 0 rfl; have a1 := A3.cell 1 rfl; have a2 := A3.cell 2 rfl; have af := A3.free
  clear A3
  cases u1
  · clear hu
    go_wp2
    refine bodyPost_ret (v := .tuple #[.agg #[.int .i64 0, .int .i64 0, .slice none 0 0], .bool false]) (by simp [results, Tryd.results32, go_sem, a0, a1, a2]) rfl (gives_none ?_)
    have B4 := B3.out
    repeat (first | (with_reducible exact B4) | (with_reducible refine up_set ?_ (by simp only; omega) _))
  · obtain rfl : u2 = false := by simpa using hu
    clear hu
    go_wp2
    refine bodyPost_ret (v := .tuple #[.agg #[.int .i64 0, .int .i64 0, .slice none 0 0], .bool false]) (by simp [results, Tryd.results32, go_sem, a0, a1, a2]) rfl (gives_none ?_)
    have B4 := B3.out
    repeat (first | (with_reducible exact B4) | (with_reducible refine up_set ?_ (by simp only; omega) _))

def ReadRel (ts : List (List UInt8)) (n : Nat) (c r : Int) (F : Option (List Sp)) (R B base : Nat) (w : World) (i : Value) (wr : World) : Prop :=
  ∃ (k : Nat) (l : List Sp) (v : Value), k ≤ n ∧ i = .int .i64 (k : Int) ∧ l.length = k ∧ Bx wr B [.int .i64 c, .int .i64 r, v] ∧ rowP wr base v l ∧ Bx wr R [.int .i64 0, .int .i64 0, .slice none 0 0] ∧ base ≤ wr.heap.size ∧ Below w.heap.size w wr ∧ Hid ((stepsM (ts.drop k)).map (fun m => l ++ m) = F)
theorem steps_yes {x : List UInt8} {r : List (List UInt8)} {l : List Sp} (h : (getS x).2 = true) : (stepsM (x :: r)).map (fun m => l ++ m) = (stepsM r).map (fun m => (l ++ [(getS x).1]) ++ m) := by
  rw [stepsM, if_pos h, Option.map_map]
  congr 1
  funext m
  simp
theorem steps_no {x : List UInt8} {r : List (List UInt8)} {l : List Sp} (h : (getS x).2 = false) : (stepsM (x :: r)).map (fun m => l ++ m) = none := by
  rw [stepsM, if_neg (by simp [h])]
  rfl
theorem drop_one {α : Type} {l : List α} {k : Nat} {x : α} (h : l[k]? = some x) : l.drop k = x :: l.drop (k + 1) := by
  obtain ⟨hlt, rfl⟩ := List.getElem?_eq_some_iff.1 h
  exact List.drop_eq_getElem_cons hlt

set_option maxRecDepth 100000 in
set_option maxHeartbeats 4000000 in
theorem schRead_good (g o n cap : Nat) (X P Q : ByteArray) (f : Bool) (c r : Int) (ts : List (List UInt8)) (w : World) (hx : w.cell? ⟨g, o, none⟩ = some (.string X)) (hts : ∀ i l, ts[i]? = some l → w.cell? ⟨g, o + (1 + i), none⟩ = some (.string (tx l))) (hn : ts.length = n) (hn6 : n ≤ 6) (hcap : n + 1 ≤ cap) (hcm : cap ≤ maxLen) (hz : ∀ x ∈ ts, x.length ≤ 1000000) (hg : GoodM w)
    (F : Option (List Sp)) (hF : stepsM ts = F)
    (KC : ∀ w, Mx w → Calls Tryd.prog 43 #[.string X, .string ⟨#[120]⟩] w fun e w' => e = .returned (.tuple #[.string P, .string Q, .bool f]) ∧ Below w.heap.size w w')
    (KP : ∀ w, Good w → Calls Tryd.prog 44 #[.string P, .int .i64 1, .int .i64 64] w fun e w' => e = .returned (.tuple #[.int .i64 c, .bool true]) ∧ Below w.heap.size w w')
    (KQ : ∀ w, Good w → Calls Tryd.prog 44 #[.string Q, .int .i64 1, .int .i64 64] w fun e w' => e = .returned (.tuple #[.int .i64 r, .bool true]) ∧ Below w.heap.size w w') :
    Calls Tryd.prog 32 #[.slice (some ⟨g, o, none⟩) (n + 1) cap] w (GivesS (F.map fun l => ⟨c, r, l⟩) w) := by
  have K := fun w => in_any ((n + 1 : Nat) : Int) 1 7 w
  rw [show (decide ((1 : Int) ≤ ((n + 1 : Nat) : Int)) && decide (((n + 1 : Nat) : Int) ≤ 7)) = true by simp; omega] at K
  have HK := Lib.hid K; have HC := Lib.hid KC; have HP := Lib.hid KP; have HQ := Lib.hid KQ; have G := Lib.hid hg; have HF := Lib.hid hF; have HN := Lib.hid hn; have HTS := Lib.hid hts; have HZ := Lib.hid hz
  clear K KC KP KQ hg hF hn hts hz
  unfold maxLen at hcm
  go_enter Tryd.func32, Tryd.ntmps32
  have A := Bx.new w 24 [.int .i64 0, .int .i64 0, .slice none 0 0]
  have B0 := Lib.hid (up_alloc (Below.refl _ w) (.cells #[.int .i64 0, .int .i64 0, .slice none 0 0] 24))
  have x0 := bl_cell B0.out hx
  have G0 := Lib.hid (G.out.below B0.out)
  go_wp2_with fail
  refine (HK.out _).mono ?_
  rintro e w1 ⟨rfl, rfl⟩
  go_wp2_with fail
  refine (HC.out _ G0.out.2).mono ?_
  rintro e w1 ⟨rfl, hb⟩
  have A1 := A.up hb
  have G1 := Lib.hid (G0.out.below hb)
  have B1 := Lib.hid (up_trans B0.out hb)
  clear hb A
  go_wp2_with fail
  refine (HP.out _ G1.out.1).mono ?_
  rintro e w2 ⟨rfl, hb⟩
  have A2 := A1.up hb
  have G2 := Lib.hid (G1.out.below hb)
  have B2 := Lib.hid (up_trans B1.out hb)
  clear hb A1
  go_wp2_with fail
  refine (HQ.out _ G2.out.1).mono ?_
  rintro e w3 ⟨rfl, hb⟩
  have A3 := A2.up hb
  have B3 := Lib.hid (up_trans B2.out hb)
  clear hb A2
  by_cases hcap1 : cap = 1
  · obtain rfl : n = 0 := by omega
    subst hcap1
    have E := Lib.hid (show F = some [] by rw [← HF.out, List.eq_nil_of_length_eq_zero HN.out]; rfl)
    have A4 := A3.alloc (.cells #[.int .i64 c, .int .i64 r, .slice none 0 0] 24)
    have HB4 := Lib.hid (up_alloc B3.out (.cells #[.int .i64 c, .int .i64 r, .slice none 0 0] 24))
    have a0 := A4.cell 0 rfl; have a1 := A4.cell 1 rfl; have a2 := A4.cell 2 rfl; have af := A4.free
    clear A3 A4
    go_wp2
    refine wp_loop_rounds 1 ?_
    rw [rounds_succ]
    go_wp2
    rw [E.out]
    refine bodyPost_ret (v := .tuple #[.agg #[.int .i64 c, .int .i64 r, .slice none 0 0], .bool true]) (by simp [results, Tryd.results32, go_sem, a0, a1, a2]) rfl ⟨none, 0, rfl, .inl rfl, ?_⟩
    have B5 := HB4.out
    repeat (first | (with_reducible exact B5) | (with_reducible refine up_set ?_ (by simp only; omega) _))
  have AR := A3.alloc (.cells #[.int .i64 c, .int .i64 r, .slice none 0 0] 24)
  have AB := Bx.new w3 24 [.int .i64 c, .int .i64 r, .slice none 0 0]
  have HB4 := Lib.hid (up_alloc B3.out (.cells #[.int .i64 c, .int .i64 r, .slice none 0 0] 24))
  have hsz : (w3.alloc (.cells #[.int .i64 c, .int .i64 r, .slice none 0 0] 24)).heap.size = w3.heap.size + 1 := by simp
  have hlt3 : w.heap.size < w3.heap.size := A3.lt
  obtain ⟨B, hB⟩ : ∃ B, w3.heap.size = B := ⟨_, rfl⟩
  have HAR := Lib.hid AR; have HAB := Lib.hid AB
  rw [hB] at hsz HAB hlt3
  have HSZ := Lib.hid hsz
  clear A3 AR AB hsz
  go_wp2
  clear hB
  generalize hw4 : (w3.alloc (.cells #[.int .i64 c, .int .i64 r, .slice none 0 0] 24)) = w4 at *
  clear hw4
  go_loopw [52] (fun i wr => ReadRel ts n c r F w.heap.size B (B + 1) w i wr) (fun i _ => n - (intOf i).toNat)
  case atStart => exact ⟨0, [], _, by omega, by go_num, rfl, HAB.out, rowP_nil _ _, HAR.out, by rw [HSZ.out]; omega, HB4.out, Lib.hid (by rw [← HF.out]; simp)⟩
  case round =>
    obtain ⟨k, l, v, hk, rfl, hlk, AB, hrow, AR, hbase, hb, HM⟩ := hrel
    by_cases hlt : k < n
    · obtain ⟨x, hx⟩ : ∃ x, ts[k]? = some x := ⟨ts[k]'(by rw [HN.out]; exact hlt), List.getElem?_eq_getElem _⟩
      have hcx := bl_cell hb (HTS.out k x hx)
      rw [← Nat.add_assoc] at hcx
      have hzx := HZ.out x (List.mem_of_getElem? hx)
      have hd := drop_one hx
      have KS := fun w h => stepGet_any (tx x) w (by rw [tx_size]; omega) h
      rw [data_tx] at KS
      have z0 : (0 : Int) ≤ (k : Int) := by omega
      have z1 : (k : Int) < (n : Int) := by omega
      have HR := Lib.hid hrow; have HBB := Lib.hid hb; have HABk := Lib.hid AB; have HARk := Lib.hid AR; have HLK := Lib.hid hlk
      clear hrow hb AB AR hlk
      cases hs : (getS x).2
      · have E := Lib.hid (show F = none by rw [← HM.out, hd]; exact steps_no hs)
        rw [hs] at KS
        generalize (getS x).1 = p at *
        obtain ⟨pd, pn, pu⟩ := p
        generalize tx x = T at *
        simp only at KS
        have HS := Lib.hid KS
        clear KS hs hd HM hzx
        go_wp2_with fail
        refine (HS.out _ (G.out.1.below HBB.out)).mono ?_
        rintro e w5 ⟨rfl, hb5⟩
        have A5 := (HARk.out.up hb5).alloc (.cells #[.int .i64 pd, .int .i64 pn, .bool pu] 48)
        have B5 := Lib.hid (up_alloc (up_trans HBB.out hb5) (.cells #[.int .i64 pd, .int .i64 pn, .bool pu] 48))
        have a0 := A5.cell 0 rfl; have a1 := A5.cell 1 rfl; have a2 := A5.cell 2 rfl; have af := A5.free
        clear A5 hb5 hcx
        go_wp2
        refine bodyPost_ret (v := .tuple #[.agg #[.int .i64 0, .int .i64 0, .slice none 0 0], .bool false]) (by simp [results, Tryd.results32, go_sem, a0, a1, a2]) rfl ?_
        rw [E.out]
        refine gives_none ?_
        have B6 := B5.out
        repeat (first | (with_reducible exact B6) | (with_reducible refine up_set ?_ (by simp only; omega) _))
      · obtain ⟨av, cv, rfl, -⟩ := HR.out.steps
        have E := Lib.hid (show (stepsM (ts.drop (k + 1))).map (fun m => (l ++ [(getS x).1]) ++ m) = F by rw [← HM.out, hd]; exact (steps_yes hs).symm)
        rw [hs] at KS
        generalize (getS x).1 = p at *
        obtain ⟨pd, pn, pu⟩ := p
        generalize tx x = T at *
        simp only at KS
        have HS := Lib.hid KS
        clear KS hs hd HM hzx
        go_wp2_with fail
        refine (HS.out _ (G.out.1.below HBB.out)).mono ?_
        rintro e w5 ⟨rfl, hb5⟩
        have A5 := (HABk.out.up hb5).alloc (.cells #[.int .i64 pd, .int .i64 pn, .bool pu] 48)
        have R5 := (HARk.out.up hb5).alloc (.cells #[.int .i64 pd, .int .i64 pn, .bool pu] 48)
        have B5 := Lib.hid (up_alloc (up_trans HBB.out hb5) (.cells #[.int .i64 pd, .int .i64 pn, .bool pu] 48))
        have P5 := Lib.hid ((HR.out.up hb5).up (up_alloc (Below.refl _ _) (.cells #[.int .i64 pd, .int .i64 pn, .bool pu] 48)))
        have S5 : B + 1 ≤ (w5.alloc (.cells #[.int .i64 pd, .int .i64 pn, .bool pu] 48)).heap.size := by have := hb5.size; simp; omega
        have a2 := A5.cell 2 rfl
        have HA5 := Lib.hid A5; have HR5 := Lib.hid R5; have HS5 := Lib.hid S5
        clear hb5 hcx A5 R5 S5
        go_wp2_with (at_builtin; refine wpList_append_step rfl _ _ rfl (B + 1) (.slice av l.length cv) l rfl P5.out HS5.out pd pn pu _ (World.size_alloc _ _) rfl ?c1 ?_)
        case c1 => rw [HLK.out]; omega
        intro g6 cap6 w6 hrow6 hb6
        have A6 := HA5.out.low (Nat.lt_succ_self _) hb6
        have R6 := HR5.out.low (by omega) hb6
        have a2' := A6.cell 2 rfl; have af := A6.free
        have HA6 := Lib.hid A6; have HR6 := Lib.hid R6; have HB6 := Lib.hid hb6; have HW6 := Lib.hid hrow6
        clear A6 R6 hb6 hrow6 a2
        go_wp2
        go_roundw
        case rel =>
          refine ⟨k + 1, l ++ [⟨pd, pn, pu⟩], _, by omega, by go_num, by simp [HLK.out], HA6.out.set 2 _, HW6.out.set (by simp only; omega) _, HR6.out.far (by simp only; omega) _, ?_, ?_, E⟩
          · have := HB6.out.size; have := HS5.out; simp [World.setCell]; omega
          · exact up_set (B5.out.trans (HB6.out.mono (by omega))) (by simp only; omega) _
        case measure => simp [intOf]; omega
    · obtain rfl : k = n := by omega
      subst hlk
      have E := Lib.hid (show F = some l by rw [← HM.out, List.drop_of_length_le (by rw [HN.out]; omega)]; simp [stepsM])
      obtain ⟨av, cv, rfl, -⟩ := hrow.steps
      have HR := Lib.hid hrow; have HBB := Lib.hid hb
      have b0 := AB.cell 0 rfl; have b1 := AB.cell 1 rfl; have b2 := AB.cell 2 rfl
      have a0 := AR.cell 0 rfl; have a1 := AR.cell 1 rfl; have a2 := AR.cell 2 rfl; have af := AR.free
      clear hrow AB AR hb
      go_wp2
      rw [E.out]
      refine bodyPost_ret (v := .tuple #[.agg #[.int .i64 c, .int .i64 r, .slice av l.length cv], .bool true]) (by simp [results, Tryd.results32, go_sem, a0, a1, a2]) rfl ⟨av, cv, rfl, ?_, ?_⟩
      · have HR6 := HR.out
        show InF _ _ av l
        refine InF.mono (base := B + 1) (rowP.inF (n := l.length) (c := cv) ?_) (by omega)
        repeat (first | (with_reducible exact HR6) | (with_reducible refine rowP.set ?_ (by simp only; omega) _))
      · have B6 := HBB.out
        repeat (first | (with_reducible exact B6) | (with_reducible refine up_set ?_ (by simp only; omega) _))

theorem cut_flag (x : List UInt8) (hx : x.length ≤ 1000000) : ∃ f, ∀ w, Mx w → Calls Tryd.prog 43 #[.string (tx x), .string ⟨#[120]⟩] w fun e w' => e = .returned (.tuple #[.string (tx (cutX x).1), .string (tx (cutX x).2), .bool f]) ∧ Below w.heap.size w w' := by
  refine ⟨(Lib.cut x [120]).2.2, fun w hm => ?_⟩
  obtain ⟨m, hm⟩ := hm
  refine (Tryd.strings_Cut (tx x) ⟨#[120]⟩ m w (by rw [tx_size]; omega) hm).mono ?_
  rintro e w' ⟨rfl, n, rfl⟩
  refine ⟨?_, up_drewN (Below.refl _ _) n⟩
  rw [data_tx, show (⟨#[120]⟩ : ByteArray).data.toList = [120] from rfl, ← cutX_lib]
  rfl
theorem cutX_length (x : List UInt8) : (cutX x).1.length ≤ x.length ∧ (cutX x).2.length ≤ x.length := by
  induction x with
  | nil => simp [cutX]
  | cons c r ih =>
    unfold cutX
    split
    · simp
    · simp only [List.length_cons]; omega
theorem within_any (x : List UInt8) (hx : x.length ≤ 1000000) (w : World) (h : Good w) :
    Calls Tryd.prog 44 #[.string (tx x), .int .i64 1, .int .i64 64] w fun e w' => e = .returned (.tuple #[.int .i64 (inOf x 1 64).1, .bool (inOf x 1 64).2]) ∧ Below w.heap.size w w' := by
  have := decWithin_any (tx x) 1 64 w (by rw [tx_size]; omega) h
  rw [data_tx] at this
  exact this

theorem schRead_any (a : Option Addr) (c : Nat) (ls : List (List UInt8)) (w : World) (h : TxA w a c ls) (hz : ∀ x ∈ ls, x.length ≤ 1000000) (hg : GoodM w) :
    Calls Tryd.prog 32 #[.slice a ls.length c] w (GivesS (readM ls) w) := by
  cases ls with
  | nil => exact schRead_len a 0 c w false (by decide) rfl
  | cons x t =>
    by_cases h6 : t.length ≤ 6
    · obtain ⟨g, o, rfl, hc, hcap, hmax⟩ := h.resolve_left (by simp)
      have c0 := hc 0 x rfl
      rw [Nat.add_zero] at c0
      have hxz := hz x (by simp)
      have hl := cutX_length x
      obtain ⟨f, KC⟩ := cut_flag x hxz
      have KP := within_any (cutX x).1 (by omega)
      have KQ := within_any (cutX x).2 (by omega)
      by_cases hs : (inOf (cutX x).1 1 64).2 = true ∧ (inOf (cutX x).2 1 64).2 = true
      · rw [hs.1] at KP
        rw [hs.2] at KQ
        have e : readM (x :: t) = (stepsM t).map fun l => ⟨(inOf (cutX x).1 1 64).1, (inOf (cutX x).2 1 64).1, l⟩ := by simp only [readM]; rw [if_pos ⟨h6, hs⟩]
        rw [e]
        exact schRead_good g o t.length c (tx x) _ _ f _ _ t w c0 (fun i l hi => by rw [Nat.add_comm 1 i]; exact hc (i + 1) l (by simpa using hi)) rfl h6 hcap hmax (fun y hy => hz y (by simp [hy])) hg _ rfl KC KP KQ
      · have e : readM (x :: t) = none := by simp only [readM]; rw [if_neg fun h => hs h.2]
        rw [e]
        refine schRead_sides g o _ c (tx x) _ _ f _ _ _ _ w c0 (by simp) (by simp; omega) ?_ hg KC KP KQ
        cases h1 : (inOf (cutX x).1 1 64).2
        · exact .inl rfl
        · right
          cases h2 : (inOf (cutX x).2 1 64).2
          · rfl
          · exact absurd ⟨h1, h2⟩ hs
    · have e : readM (x :: t) = none := by simp only [readM]; rw [if_neg fun h => h6 h.1]
      rw [e]
      exact schRead_len a _ c w false (by simp; omega) rfl
end Go.Proofs.YtaphkplidnepaaaDoor
