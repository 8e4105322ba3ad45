/- Texts, lists of texts and rows of octets in memory. -/
import Derived.Test.YtaphkplidnepaaaDoorProg
import Derived.Test.YtaphkplidnepaaaDoorLater
import Derived.Lib.Hide
import Derived.Deep.AppendLies
import Derived.OwnWalk
import Derived.Laws.OwnMore
import Derived.Laws.DeepStrings4
import Derived.Laws.IdiomStrings
import Derived.Laws.BytesArg
import Derived.IntWalk
namespace Go.Proofs.YtaphkplidnepaaaDoor
open Go.RowKit
set_option linter.unusedVariables false

theorem Tryd.infoText : (Tryd.prog.info? 9).map (fun i => (i.zero, i.size, i.bytes)) = some (some (.string ⟨#[]⟩), 1, 16) := by kernel_rfl
theorem Tryd.infoOctet : (Tryd.prog.info? 5).map (fun i => (i.zero, i.size, i.bytes)) = some (some (.int .u8 0), 1, 1) := by kernel_rfl

/-- A text of these octets. -/
def tx (l : List UInt8) : ByteArray := ⟨l.toArray⟩
theorem tx_data (s : ByteArray) : tx s.data.toList = s := by simp [tx]
theorem data_tx (l : List UInt8) : (tx l).data.toList = l := by simp [tx]
theorem tx_size (l : List UInt8) : (tx l).size = l.length := by simp [tx, ByteArray.size]
theorem tx_append (a b : List UInt8) : tx a ++ tx b = tx (a ++ b) := ByteArray.mk_append_mk a b
theorem tx_toList (l : List UInt8) : (tx l).toList = l := by rw [ByteArray.toList_eq, data_tx]
theorem tx_same (a b : List UInt8) : ((tx a).toList == (tx b).toList) = decide (a = b) := by rw [tx_toList, tx_toList, Bool.eq_iff_iff]; simp
theorem tx_inj {a b : List UInt8} (h : tx a = tx b) : a = b := by rw [← data_tx a, h, data_tx]
theorem size_data (s : ByteArray) : s.data.toList.length = s.size := Array.length_toList
theorem tx_extract (s : ByteArray) (i j : Nat) : s.extract i j = tx ((s.data.toList.take j).drop i) := by
  apply ByteArray.ext
  apply Array.toList_inj.1
  simp [tx, List.drop_take]
theorem drop_octet {s : ByteArray} {k : Nat} (h : k < s.size) : s.data.toList.drop k = s[k] :: s.data.toList.drop (k + 1) := by
  rw [List.drop_eq_getElem_cons (by rw [size_data]; exact h)]
  rfl
theorem take_octet {s : ByteArray} {k : Nat} (h : k < s.size) : s.data.toList.take (k + 1) = s.data.toList.take k ++ [s[k]] := by
  rw [List.take_succ_eq_append_getElem (by rw [size_data]; exact h)]
  rfl
theorem cur_octet {s : ByteArray} {f k : Nat} (hf : f ≤ k) (h : k < s.size) : (s.data.toList.take (k + 1)).drop f = (s.data.toList.take k).drop f ++ [s[k]] := by
  rw [take_octet h, List.drop_append_of_le_length (by rw [List.length_take, size_data]; omega)]
theorem cur_none (s : ByteArray) (k : Nat) : (s.data.toList.take k).drop k = [] := List.drop_eq_nil_of_le (by rw [List.length_take]; omega)
theorem oct_eq (c : UInt8) (n : UInt8) : ((c.toNat : Int) == (n.toNat : Int)) = (c == n) := by
  rw [Bool.eq_iff_iff]
  simp [← UInt8.toNat_inj]
  omega

/-- v is a slice that holds the texts ls. -/
def TxS (w : World) (v : Value) (ls : List (List UInt8)) : Prop :=
  ∃ a c, v = .slice a ls.length c ∧ (ls = [] ∨ ∃ g, a = some ⟨g, 0, none⟩ ∧ (∀ i l, ls[i]? = some l → w.cell? ⟨g, i, none⟩ = some (.string (tx l))) ∧ ls.length ≤ c ∧ c ≤ maxLen)
theorem TxS.up {w w' : World} {v : Value} {ls : List (List UInt8)} (h : TxS w v ls) (hb : Below w.heap.size w w') : TxS w' v ls := by
  obtain ⟨a, c, h1, h2 | ⟨g, h2, h3, h4⟩⟩ := h
  · exact ⟨a, c, h1, .inl h2⟩
  · exact ⟨a, c, h1, .inr ⟨g, h2, fun i l hi => bl_cell hb (h3 i l hi), h4⟩⟩
theorem TxS.nil (w : World) : TxS w (.slice none 0 0) [] := ⟨none, 0, rfl, .inl rfl⟩
theorem TxS.cell {w : World} {a : Option Addr} {n c : Nat} {ls : List (List UInt8)} (h : TxS w (.slice a n c) ls) (h0 : 0 < n) : ls.length = n ∧ ∃ g, a = some ⟨g, 0, none⟩ ∧ ∀ i l, ls[i]? = some l → w.cell? ⟨g, i, none⟩ = some (.string (tx l)) := by
  obtain ⟨a', c', h1, h2⟩ := h
  injection h1 with e1 e2 e3
  subst e1 e2
  refine ⟨rfl, ?_⟩
  rcases h2 with rfl | ⟨g, h2, h3, _⟩
  · simp at h0
  · exact ⟨g, h2, h3⟩

/-- v is a slice of the call's own, from block base on, that holds the texts ls. -/
def rowT (w : World) (base : Nat) (v : Value) (ls : List (List UInt8)) : Prop := w.ownsRow base 9 1 v ls.length (ls.map fun l => .string (tx l))
theorem rowT_nil (w : World) (base : Nat) : rowT w base (.slice none 0 0) [] := World.ownsRow_nil _ _ _ _
theorem own_kept {w w' : World} {base : Nat} {e : TypeId} {z n : Nat} {v : Value} {xs : List Value} (h : w.ownsRow base e z v n xs) (hb : ∀ k, base ≤ k → k < w.heap.size → w'.heap[k]? = w.heap[k]?) : w'.ownsRow base e z v n xs := by
  obtain ⟨h0, h | ⟨g, cap, cur, h1, h2, h3, h4⟩⟩ := h
  · exact ⟨h0, .inl h⟩
  · exact ⟨h0, .inr ⟨g, cap, cur, h1, h2, (hb g h2 (Array.getElem?_eq_some_iff.1 h3).1).trans h3, h4⟩⟩
theorem rowT.kept {w w' : World} {base : Nat} {v : Value} {ls : List (List UInt8)} (h : rowT w base v ls) (hb : ∀ k, base ≤ k → k < w.heap.size → w'.heap[k]? = w.heap[k]?) : rowT w' base v ls := own_kept h hb
theorem rowT.up {w w' : World} {base : Nat} {v : Value} {ls : List (List UInt8)} (h : rowT w base v ls) (hb : Below w.heap.size w w') : rowT w' base v ls := h.kept fun k _ hk => hb.block k hk
theorem rowT.texts {w : World} {base : Nat} {v : Value} {ls : List (List UInt8)} (h : rowT w base v ls) : TxS w v ls := by
  rcases h.2 with ⟨rfl, h0⟩ | ⟨g, cap, cur, rfl, hb, hg, hcap, hmax, hsz, htk⟩
  · exact ⟨none, 0, by rw [h0], .inl (List.eq_nil_of_length_eq_zero h0)⟩
  · refine ⟨some ⟨g, 0, none⟩, cap, rfl, .inr ⟨g, rfl, fun i l hi => ?_, by omega, by omega⟩⟩
    have := h.cells (g := g) rfl i (.string (tx l)) (by simp [hi])
    rwa [show (⟨g, 0, none⟩ : Addr).add i = ⟨g, i, none⟩ by unfold Addr.add; split <;> simp_all] at this

/-- append, of one text, to a row of the call's own. -/
theorem wpList_append_text {u : World} {ops : Array Oper} {rest : List Oper} {o : Oper} {a : Act} {Q : Exit → Act → World → Prop} (hgd : o.guard = none) (s x : Operand)
    (ho : o.op = .call { callee := .builtin .append, args := #[s, x], argTypes := #[29, 29] })
    (base : Nat) (v : Value) (ls : List (List UInt8)) (hs : a.eval s = v) (hown : rowT u base v ls) (hbase : base ≤ u.heap.size)
    (p : ByteArray) (l : List UInt8) (hp : p = tx l) (hx : a.eval x = .slice (some ⟨u.heap.size, 0, none⟩) 1 1) (hl : ls.length ≤ 1000000)
    (h : ∀ v' w', rowT w' base v' (ls ++ [l]) → Below base u w' → wpList Tryd.prog ops Q rest (a.put o.dst v') w') : wpList Tryd.prog ops Q (o :: rest) a (u.alloc (.cells #[.string p] 9)) := by
  subst hp
  obtain ⟨i0, hi, hz0, hz1, hz2⟩ := info_parts Tryd.infoText
  refine wpList_append_lies _ hgd s x 29 ho base 9 i0 _ 1 16 Tryd.underlying29 hi hz0 hz1 hz2 rfl (by omega) v ls.length _ hs (World.ownsRow.alloc hown _) ⟨u.heap.size, 0, none⟩ 1 1 [.string (tx l)] hx rfl ?_ ?_ (by omega) (by unfold maxLen; omega) (by omega) (by simp; omega) _ rfl ?_
  · exact World.news_of_block (cs := #[.string (tx l)]) (t := 9) (fr := (0, 0)) (heap_alloc_new u _)
  · intro y hy; simp at hy; subst hy; rfl
  intro g cap w1 hown1 hgrow hat hlt
  refine h _ w1 ?_ (Below.grown ((Below.refl _ _).alloc hbase _) hgrow (by simp; omega) (fun k hk => (hown.lt k hk).1))
  unfold rowT
  rw [List.length_append, List.map_append]
  exact hown1

/-- v is a row of octets of the call's own, from block base on. -/
def encO (l : List UInt8) : List Value := l.map fun c => .int .u8 (c.toNat : Int)
def rowB (w : World) (base : Nat) (v : Value) (l : List UInt8) : Prop := w.ownsRow base 5 1 v l.length (encO l)
theorem rowB_nil (w : World) (base : Nat) : rowB w base (.slice none 0 0) [] := World.ownsRow_nil _ _ _ _
theorem rowB.kept {w w' : World} {base : Nat} {v : Value} {l : List UInt8} (h : rowB w base v l) (hb : ∀ k, base ≤ k → k < w.heap.size → w'.heap[k]? = w.heap[k]?) : rowB w' base v l := own_kept h hb
theorem rowB.up {w w' : World} {base : Nat} {v : Value} {l : List UInt8} (h : rowB w base v l) (hb : Below w.heap.size w w') : rowB w' base v l := h.kept fun k _ hk => hb.block k hk
/-- append, of one octet, to a row of the call's own. -/
theorem wpList_append_octet {u : World} {ops : Array Oper} {rest : List Oper} {o : Oper} {a : Act} {Q : Exit → Act → World → Prop} (hgd : o.guard = none) (s x : Operand)
    (ho : o.op = .call { callee := .builtin .append, args := #[s, x], argTypes := #[91, 91] })
    (base : Nat) (v : Value) (l : List UInt8) (hs : a.eval s = v) (hown : rowB u base v l) (hbase : base ≤ u.heap.size)
    (n : Int) (c : UInt8) (hc : n = (c.toNat : Int)) (hx : a.eval x = .slice (some ⟨u.heap.size, 0, none⟩) 1 1) (hl : l.length ≤ 1000000000)
    (h : ∀ v' w', rowB w' base v' (l ++ [c]) → Below base u w' → wpList Tryd.prog ops Q rest (a.put o.dst v') w') : wpList Tryd.prog ops Q (o :: rest) a (u.alloc (.cells #[.int .u8 n] 5)) := by
  subst hc
  obtain ⟨i0, hi, hz0, hz1, hz2⟩ := info_parts Tryd.infoOctet
  refine wpList_append_lies _ hgd s x 91 ho base 5 i0 _ 1 1 Tryd.underlying91 hi hz0 hz1 hz2 rfl (by omega) v l.length _ hs (World.ownsRow.alloc hown _) ⟨u.heap.size, 0, none⟩ 1 1 [.int .u8 (c.toNat : Int)] hx rfl ?_ ?_ (by omega) (by unfold maxLen; omega) (by omega) (by simp; omega) _ rfl ?_
  · exact World.news_of_block (cs := #[.int .u8 (c.toNat : Int)]) (t := 5) (fr := (0, 0)) (heap_alloc_new u _)
  · intro y hy; simp at hy; subst hy; rfl
  intro g cap w1 hown1 hgrow hat hlt
  refine h _ w1 ?_ (Below.grown ((Below.refl _ _).alloc hbase _) hgrow (by simp; omega) (fun k hk => (hown.lt k hk).1))
  unfold rowB encO
  rw [List.length_append, List.map_append]
  exact hown1
/-- A row of octets, as a text. -/
theorem rowB.text {w : World} {base : Nat} {v : Value} {l : List UInt8} (h : rowB w base v l) : (convert 91 9 v).run Tryd.prog w = .ok (.string (tx l)) w := by
  rcases h.2 with ⟨rfl, h0⟩ | ⟨g, cap, cur, rfl, hb, hg, hcap, hmax, hsz, htk⟩
  · obtain rfl := List.eq_nil_of_length_eq_zero h0
    rw [run_convert_bytes_string w 91 9 5 none 0 0 Tryd.underlying91 Tryd.underlying5 Tryd.underlying9]
    rfl
  · refine run_convert_bytes_back w 91 9 5 ⟨g, 0, none⟩ cap l Tryd.underlying91 Tryd.underlying5 Tryd.underlying9 ?_
    intro j hj
    exact h.cells (g := g) rfl j _ (by simp [encO, hj])
/-- A block of one octet, just made, is a row of the call's own. -/
theorem rowB_one (w : World) (base : Nat) (c : UInt8) (hb : base ≤ w.heap.size) : rowB (w.alloc (.cells #[.int .u8 (c.toNat : Int)] 5)) base (.slice (some ⟨w.heap.size, 0, none⟩) 1 1) [c] :=
  ⟨rfl, .inr ⟨w.heap.size, 1, _, rfl, hb, heap_alloc_new w _, Nat.le_refl _, by decide, rfl, rfl⟩⟩
end Go.Proofs.YtaphkplidnepaaaDoor
