/- What the laws' own joined, back and the document's own Ints answer. -/
import Derived.Test.YtiekhpeekhibeaaDeckTurn
import Derived.Laws.AppendOwnNone
import Derived.Deep.AppendLies
namespace Go.Proofs.Ytiekhpeekhibeaa
open Go.RowKit
set_option linter.unusedVariables false

/-- append, of any list, to a list of the call's own. -/
theorem wpList_append_nums {w : World} {ops : Array Oper} {rest : List Oper} {o : Oper} {a : Act} {Q : Exit → Act → World → Prop} (hgd : o.guard = none) (s x : Operand)
    (ho : o.op = .call { callee := .builtin .append, args := #[s, x], argTypes := #[22, 22] })
    (base : Nat) (v : Value) (l : List Int) (hs : a.eval s = v) (hown : w.ownsRow base 3 1 v l.length (enc l)) (hbase : base ≤ w.heap.size)
    (ad : Option Addr) (c : Nat) (ys : List Int) (hx : a.eval x = .slice ad ys.length c) (hn : Nums w ad ys) (h0 : ad = none → c = 0) (hl : l.length ≤ 1000000) (hy : ys.length ≤ 1000000)
    (h : ∀ v' w', w'.ownsRow base 3 1 v' (l ++ ys).length (enc (l ++ ys)) → Below base w w' → wpList Try.prog ops Q rest (a.put o.dst v') w') : wpList Try.prog ops Q (o :: rest) a w := by
  obtain ⟨i0, hi, hz0, hz1, hz2⟩ := info_parts Try.infoInt
  cases ad with
  | none =>
    have e : ys = [] := by
      rcases hn with h | ⟨b, off, e, _⟩
      · exact h
      · cases e
    subst e
    rw [h0 rfl] at hx
    refine wpList_append_own_none hgd s x 22 ho base 3 i0 1 Try.underlying22 hi v l.length (enc l) hs hown hx ?_
    exact h v w (by simpa using hown) (Below.refl _ _)
  | some p =>
    refine wpList_append_own _ hgd s x 22 ho base 3 i0 (.int .i64 0) 1 8 Try.underlying22 hi hz0 hz1 hz2 rfl (by decide) v l.length (enc l) hs hown p ys.length c (enc ys) hx ?_ ?_ enc_one (by unfold maxLen; omega) (by omega) hbase ?_
    · rw [enc_length]; omega
    · intro j u hu
      obtain ⟨y, hy, rfl⟩ := enc_get hu
      rcases hn with rfl | ⟨b, off, e, hc⟩
      · simp at hy
      · cases e
        rw [show (⟨b, off, none⟩ : Addr).add j = ⟨b, off + j, none⟩ by unfold Addr.add; split <;> simp_all]
        exact hc j y hy
    · intro v' w' hown' hg _
      refine h v' w' (by rw [List.length_append, enc_append]; exact hown') (Below.grown (Below.refl _ _) hg hbase (fun k hk => (hown.lt k hk).1))

/-- A list that came in: a nil one has no room. -/
def Arg (w : World) (a : Option Addr) (c : Nat) (l : List Int) : Prop := Nums w a l ∧ (a = none → c = 0)
theorem Arg.up {w w' : World} {a : Option Addr} {c : Nat} {l : List Int} (h : Arg w a c l) (hb : Below w.heap.size w w') : Arg w' a c l := ⟨h.1.up hb, h.2⟩
theorem Arg.nil (w : World) : Arg w none 0 [] := ⟨Nums.nil, fun _ => rfl⟩

set_option maxHeartbeats 1000000 in
theorem joined_any {w : World} {a b c : Option Addr} {ca cb cc : Nat} {la lb lc : List Int} (ha : Arg w a ca la) (hb : Arg w b cb lb) (hc : Arg w c cc lc) (hla : la.length ≤ 1000) (hlb : lb.length ≤ 1000) (hlc : lc.length ≤ 1000) :
    Calls Try.prog 8 #[.slice a la.length ca, .slice b lb.length cb, .slice c lc.length cc] w (Lists w (la ++ lb ++ lc)) := by
  have HA := Lib.hid ha; have HB := Lib.hid hb; have HC := Lib.hid hc
  clear ha hb hc
  go_enter Try.func8, Try.ntmps8
  go_wp2_with (at_builtin; first
    | (refine wpList_append_nums rfl _ _ rfl w.heap.size v2 (la ++ lb) rfl H2.out B2.out.size c cc lc rfl (HC.out.up B2.out).1 HC.out.2 ?c6 ?c7 ?_; rotate_left 2; intro v3 w3 h3 hb3; have H3 := Lib.hid h3; have B3 := Lib.hid (B2.out.trans hb3); clear h3 hb3)
    | (refine wpList_append_nums rfl _ _ rfl w.heap.size v1 la rfl H1.out B1.out.size b cb lb rfl (HB.out.up B1.out).1 HB.out.2 ?c4 ?c5 ?_; rotate_left 2; intro v2 w2 h2 hb2; have H2 := Lib.hid h2; have B2 := Lib.hid (B1.out.trans hb2); clear h2 hb2)
    | (refine wpList_append_nums rfl _ _ rfl w.heap.size (.slice none 0 0) [] rfl (World.ownsRow_nil _ _ _ _) (Nat.le_refl _) a ca la rfl HA.out.1 HA.out.2 ?c1 ?c2 ?_; rotate_left 2; intro v1 w1 h1 hb1; have H1 := Lib.hid h1; have B1 := Lib.hid hb1; clear h1 hb1))
  · go_ret
    exact ⟨_, rfl, H3.out, B3.out⟩
  all_goals (first | omega | (simp only [List.length_append, List.length_nil]; omega))

/-- A number as it is, or from the other side. -/
def bk (other : Bool) (x : Int) : Int := if other then neg64 x else x
/-- A list from its end on. -/
def backL (other : Bool) (l : List Int) : List Int := l.reverse.map (bk other)
theorem backL_length (other : Bool) (l : List Int) : (backL other l).length = l.length := by simp [backL]
theorem backL_false (l : List Int) : backL false l = l.reverse := by
  unfold backL
  rw [show bk false = id from rfl, List.map_id]
theorem backL_true (l : List Int) : backL true l = l.reverse.map neg64 := rfl
theorem backL_take {other : Bool} {l : List Int} {k : Nat} {x : Int} (hk : k < l.length) (hx : l[l.length - 1 - k]? = some x) : (backL other l).take (k + 1) = (backL other l).take k ++ [bk other x] := by
  have h : (backL other l)[k]? = some (bk other x) := by
    unfold backL
    rw [List.getElem?_map, List.getElem?_reverse hk, hx]
    rfl
  rw [List.take_add_one, h]
  rfl

def BackRel (w : World) (other : Bool) (l : List Int) (v i : Value) (wr : World) : Prop :=
  ∃ k : Nat, k ≤ l.length ∧ i = .int .i64 ((l.length : Int) - 1 - (k : Int)) ∧ wr.ownsRow w.heap.size 3 1 v k (enc ((backL other l).take k)) ∧ Below w.heap.size w wr

set_option maxHeartbeats 1000000 in
theorem back_any {w : World} {a : Option Addr} {l : List Int} (c : Nat) (h : Nums w a l) (hl : l.length ≤ 1000) (other : Bool) :
    Calls Try.prog 14 #[.slice a l.length c, .bool other] w (Lists w (backL other l)) := by
  obtain ⟨i0, hi0, hz0, hz1, hz2⟩ := info_parts Try.infoInt
  have HA := Lib.hid h
  clear h
  obtain ⟨m, hm⟩ : ∃ m, l.length = m := ⟨_, rfl⟩
  have HM := Lib.hid hm
  rw [hm] at hl ⊢
  clear hm
  have wm : IntKind.i64.wrap ((m : Int) - 1) = (m : Int) - 1 := IntWalk.i64_in _ (by omega)
  go_enter Try.func14, Try.ntmps14
  go_wp2
  go_loopw [5, 6] (fun v i wr => BackRel w other l v i wr) (fun _ i _ => (intOf i + 1).toNat)
  case atStart => exact ⟨0, by omega, by rw [HM.out]; simp, by simpa [enc] using World.ownsRow_nil w w.heap.size 3 1, Below.refl _ _⟩
  case round =>
    obtain ⟨k, hk, rfl, hrow, hb⟩ := hrel
    rw [HM.out] at hk
    rw [HM.out]
    by_cases hlt : k < m
    · obtain ⟨x, hx⟩ : ∃ x, l[l.length - 1 - k]? = some x := ⟨l[l.length - 1 - k]'(by rw [HM.out]; omega), List.getElem?_eq_getElem _⟩
      have ht := backL_take (other := other) (by rw [HM.out]; exact hlt) hx
      obtain ⟨b, off, rfl, hc⟩ := (HA.out.up hb).cell (by rw [HM.out]; omega)
      have hcx := hc _ x hx
      rw [HM.out] at hcx
      obtain ⟨q, hq⟩ : ∃ q : Nat, m - 1 - k = q := ⟨_, rfl⟩
      have eq : (m : Int) - 1 - (k : Int) = (q : Int) := by omega
      rw [hq] at hcx
      rw [eq]
      have z0 : (0 : Int) ≤ (q : Int) := by omega
      have z1 : (q : Int) < (m : Int) := by omega
      have wq : IntKind.i64.wrap ((q : Int) - 1) = (q : Int) - 1 := IntWalk.i64_in _ (by omega)
      have HR := Lib.hid hrow; have HB := Lib.hid hb; have HT := Lib.hid ht
      clear hrow hb ht hc hx
      have hsz := HB.out.size
      cases other
      · go_wp2_with (at_builtin; refine wpList_append_lies _ rfl _ _ 22 rfl w.heap.size 3 i0 _ 1 8 Try.underlying22 hi0 hz0 hz1 hz2 rfl (by omega) _ k (enc ((backL false l).take k)) rfl (HR.out.alloc _) ⟨wr.heap.size, 0, none⟩ 1 1 [.int .i64 (bk false x)] rfl rfl ?c1 ?c2 (by omega) (by unfold maxLen; omega) (by omega) (by simp; omega) _ rfl ?_)
        case c1 => exact World.news_of_block (cs := #[.int .i64 (bk false x)]) (t := 3) (fr := (0, 0)) (heap_alloc_new wr _)
        case c2 => intro u hu; simp at hu; subst hu; rfl
        intro g cap' w2 hown hgrow hat hglt
        have HO1 := Lib.hid hown; have HG := Lib.hid hgrow
        clear hown hgrow hat
        go_wp2
        go_roundw
        case rel =>
          refine ⟨k + 1, by rw [HM.out]; omega, ?_, ?_, ?_⟩
          · rw [HM.out]; congr 1; omega
          · rw [HT.out, enc_append]
            exact HO1.out
          · exact Below.grown (HB.out.alloc hsz _) HG.out (by simp; omega) (fun j hj => (HR.out.lt j hj).1)
        case measure => simp [intOf]
      · go_wp2_with (at_builtin; refine wpList_append_lies _ rfl _ _ 22 rfl w.heap.size 3 i0 _ 1 8 Try.underlying22 hi0 hz0 hz1 hz2 rfl (by omega) _ k (enc ((backL true l).take k)) rfl (HR.out.alloc _) ⟨wr.heap.size, 0, none⟩ 1 1 [.int .i64 (bk true x)] rfl rfl ?c1 ?c2 (by omega) (by unfold maxLen; omega) (by omega) (by simp; omega) _ rfl ?_)
        case c1 => exact World.news_of_block (cs := #[.int .i64 (bk true x)]) (t := 3) (fr := (0, 0)) (heap_alloc_new wr _)
        case c2 => intro u hu; simp at hu; subst hu; rfl
        intro g cap' w2 hown hgrow hat hglt
        have HO1 := Lib.hid hown; have HG := Lib.hid hgrow
        clear hown hgrow hat
        go_wp2
        go_roundw
        case rel =>
          refine ⟨k + 1, by rw [HM.out]; omega, ?_, ?_, ?_⟩
          · rw [HM.out]; congr 1; omega
          · rw [HT.out, enc_append]
            exact HO1.out
          · exact Below.grown (HB.out.alloc hsz _) HG.out (by simp; omega) (fun j hj => (HR.out.lt j hj).1)
        case measure => simp [intOf]
    · obtain rfl : k = m := by omega
      have e : (backL other l).take k = backL other l := List.take_of_length_le (by rw [backL_length, HM.out]; exact Nat.le_refl _)
      rw [e] at hrow
      have hk1 : (k : Int) - 1 - (k : Int) = -1 := by omega
      rw [hk1]
      have HR := Lib.hid hrow; have HB := Lib.hid hb
      clear hrow hb e
      go_wp2
      go_ret
      exact ⟨_, rfl, by rw [backL_length, HM.out]; exact HR.out, HB.out⟩

set_option maxHeartbeats 1000000 in
/-- Of a list twice, Ints answers true. -/
theorem ints_same {w : World} {a b : Option Addr} {l : List Int} (ca cb : Nat) (ha : Nums w a l) (hb : Nums w b l) (hl : l.length ≤ 1000) :
    Calls Try.prog 11 #[.slice a l.length ca, .slice b l.length cb] w fun e w' => e = .returned (.bool true) ∧ Below w.heap.size w w' := by
  have HA := Lib.hid ha; have HB := Lib.hid hb
  clear ha hb
  obtain ⟨m, hm⟩ : ∃ m, l.length = m := ⟨_, rfl⟩
  have HM := Lib.hid hm
  rw [hm] at hl ⊢
  clear hm
  go_enter Try.func11, Try.ntmps11
  go_wp2
  go_loopw [5] (fun i wr => ∃ k : Nat, k ≤ m ∧ i = .int .i64 (k : Int) ∧ ∃ u : Later w, wr = u.now) (fun i _ => m - (intOf i).toNat)
  case atStart => exact ⟨0, by omega, by go_num, ⟨w, Below.refl _ _⟩, rfl⟩
  case round =>
    obtain ⟨k, hk, rfl, u, rfl⟩ := hrel
    by_cases hlt : k < m
    · obtain ⟨x, hx⟩ : ∃ x, l[k]? = some x := ⟨l[k]'(by rw [HM.out]; exact hlt), List.getElem?_eq_getElem _⟩
      obtain ⟨b1, o1, rfl, h1⟩ := HA.out.cell (by rw [HM.out]; omega)
      obtain ⟨b2, o2, rfl, h2⟩ := HB.out.cell (by rw [HM.out]; omega)
      have c1 := fun u : Later w => u.cell (h1 k x hx)
      have c2 := fun u : Later w => u.cell (h2 k x hx)
      have z0 : (0 : Int) ≤ (k : Int) := by omega
      have z1 : (k : Int) < (m : Int) := by omega
      clear h1 h2 hx
      go_wp2
      refine wp_region_later (by kernel_rfl) (by kernel_rfl) ?_
      repeat (go_big_quiet_step (fail))
      refine wpQuiet_nil ?_
      rintro _ ⟨u2, rfl⟩
      clear c1 c2
      go_wp2
      go_roundw
      case rel => exact ⟨k + 1, by omega, by go_num, u2, rfl⟩
      case measure => simp [intOf]; omega
    · have hk2 : m ≤ k := by omega
      go_wp2
      go_ret
      exact ⟨rfl, u.up⟩
end Go.Proofs.Ytiekhpeekhibeaa
