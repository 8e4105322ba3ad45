/- What the document's own Get answers: for every list of texts. -/
import Derived.Test.YtaphkplidnepaaaDoorSchemeRefTwo
namespace Go.Proofs.YtaphkplidnepaaaDoor
open Go.RowKit DecMath
set_option linter.unusedVariables false

theorem oct32' (c : UInt8) : ((c.toNat : Int) == 32) = (c == 32) := oct_eq c 32
theorem join_len (l : List (List UInt8)) (h : ∀ x ∈ l, x.length ≤ 60) : (joinM l).length ≤ 61 * l.length := by
  cases l with
  | nil => simp [joinM]
  | cons p r =>
    rw [joinM_cons]
    have key : ∀ r : List (List UInt8), (∀ x ∈ r, x.length ≤ 60) → (r.flatMap fun q => 32 :: q).length ≤ 61 * r.length := by
      intro r hr
      induction r with
      | nil => simp
      | cons q r ih =>
        have h1 := hr q (by simp)
        have h2 := ih fun x hx => hr x (by simp [hx])
        simp only [List.flatMap_cons, List.length_append, List.length_cons]
        omega
    have h1 := h p (by simp)
    have h2 := key r fun x hx => h x (by simp [hx])
    simp only [List.length_append, List.length_cons]
    omega
theorem any_blank {ls : List (List UInt8)} {q : List UInt8} (h : q ∈ ls) (h2 : (32 : UInt8) ∈ q) : refGetM ls = none := by
  unfold refGetM
  rw [if_pos]
  exact List.any_eq_true.2 ⟨q, h, by simpa using h2⟩
theorem none_blank {ls : List (List UInt8)} (h : ∀ q ∈ ls, (32 : UInt8) ∉ q) : refGetM ls = match foundM (joinM ls) with
    | some s => if putM s = some (joinM ls) then some s else none
    | none => none := by
  unfold refGetM
  exact if_neg fun h2 => by
    obtain ⟨q, hq, hc⟩ := List.any_eq_true.1 h2
    exact h q hq (by simpa using hc)
theorem put_eq (s : Sc) (l : List UInt8) : ((putM s).isSome && ((putT s).toList == (tx l).toList)) = decide (putM s = some l) := by
  unfold putT
  cases h : putM s with
  | none => simp
  | some t =>
    show (true && ((tx t).toList == (tx l).toList)) = _
    rw [tx_same, Bool.eq_iff_iff]
    simp
theorem join_step {ls : List (List UInt8)} {k : Nat} {x : List UInt8} (h : ls[k]? = some x) : joinM (ls.take (k + 1)) = if k = 0 then x else joinM (ls.take k) ++ 32 :: x := by
  rw [take_snoc h, joinM_snoc]
  have hlt := (List.getElem?_eq_some_iff.1 h).1
  by_cases hk : k = 0
  · subst hk; simp
  · rw [if_neg hk, if_neg]
    intro e
    have := congrArg List.length e
    rw [List.length_take, List.length_nil] at this
    omega

set_option maxRecDepth 100000 in
set_option maxHeartbeats 4000000 in
theorem refGet_blank (a : Option Addr) (c : Nat) (ls : List (List UInt8)) (w : World) (h : TxA w a c ls) (hz : ∀ x ∈ ls, x.length ≤ 60) (hl : ls.length ≤ 20) (F : Option Sc) (hF : F = refGetM ls) (hb : ∃ q ∈ ls, (32 : UInt8) ∈ q) :
    Calls Tryd.prog 23 #[.slice a ls.length c] w (GivesS F w) := by
  have HF := Lib.hid hF; have HBL := Lib.hid hb
  clear hF hb
  obtain ⟨n, hn⟩ : ∃ n, ls.length = n := ⟨_, rfl⟩
  have HN := Lib.hid hn; have HT := Lib.hid h; have HZ := Lib.hid hz
  rw [hn] at hl ⊢
  clear hn h hz
  have A1 := Bx.new w 24 [.int .i64 0, .int .i64 0, .slice none 0 0]
  have B1 := Lib.hid (up_alloc (Below.refl _ w) (.cells #[.int .i64 0, .int .i64 0, .slice none 0 0] 24))
  go_enter Tryd.func23, Tryd.ntmps23
  go_wp2
  generalize hw1 : w.alloc (.cells #[.int .i64 0, .int .i64 0, .slice none 0 0] 24) = w1 at *
  clear hw1
  have HA1 := Lib.hid A1
  have HT1 := Lib.hid (HT.out.up B1.out)
  clear A1
  go_loopw [4, 5] (fun t i wr => ∃ k : Nat, k ≤ n ∧ t = .string (tx (joinM (ls.take k))) ∧ i = .int .i64 (k : Int) ∧ Hid (∀ y ∈ ls.take k, (32 : UInt8) ∉ y) ∧ wr = w1) (fun _ i _ => n - (intOf i).toNat)
  case atStart => exact ⟨0, by omega, by simp [joinM, tx], by go_num, Lib.hid (by simp), rfl⟩
  case round =>
    obtain ⟨k, hk, rfl, rfl, HNBk, hwr⟩ := hrel
    obtain rfl : w1 = wr := hwr.symm
    clear hwr
    by_cases hlt : k < n
    · obtain ⟨x, hx⟩ : ∃ x, ls[k]? = some x := ⟨ls[k]'(by rw [HN.out]; exact hlt), List.getElem?_eq_getElem _⟩
      obtain ⟨g, o, rfl, hc, hcap, hmax⟩ := HT1.out.resolve_left (by rintro rfl; cases hx)
      have hcx := hc k x hx
      have hxz := HZ.out x (List.mem_of_getElem? hx)
      have hjs := join_step hx
      have htz := join_len (ls.take k) fun y hy => HZ.out y (List.mem_of_mem_take hy)
      rw [List.length_take, HN.out] at htz
      obtain ⟨X, hX⟩ : ∃ X, tx x = X := ⟨_, rfl⟩
      have hXs : X.size = x.length := by rw [← hX, tx_size]
      have HXS := Lib.hid hXs
      have HXM := Lib.hid (show ∀ q (hq : q < X.size), X[q] ∈ x by subst hX; intro q hq; exact List.getElem_mem _)
      have HXT := Lib.hid (show ∀ q (hq : q < X.size), x.take (q + 1) = x.take q ++ [X[q]] by
        subst hX
        intro q hq
        rw [tx_size] at hq
        exact List.take_succ_eq_append_getElem hq)
      have HX := Lib.hid hx
      obtain ⟨T, hT⟩ : ∃ T, tx (joinM (ls.take k)) = T := ⟨_, rfl⟩
      have hTz : T.size ≤ 1220 := by rw [← hT, tx_size]; omega
      obtain ⟨J, hJ⟩ : ∃ J, tx (joinM (ls.take (k + 1))) = J := ⟨_, rfl⟩
      have HJ2 := Lib.hid hJ
      have hXz : X.size ≤ 60 := by omega
      rw [hX] at hcx
      rw [hT]
      have z0 : (0 : Int) ≤ (k : Int) := by omega
      have z1 : (k : Int) < (n : Int) := by omega
      clear hx hc hcap hxz htz hXs
      by_cases hk0 : k = 0
      · have zk : decide ((0 : Nat) < k) = false := by simp; omega
        have zk2 : decide ((0 : Int) < (k : Int)) = false := by simp; omega
        have hsum : T ++ X = J := by
          rw [← hT, ← hX, ← hJ, hjs, if_pos hk0, tx_append]
          subst hk0
          simp [joinM]
        clear hjs hX hT hJ hk0
        go_wp2
        go_loopw [6] (fun j wr => ∃ q : Nat, q ≤ X.size ∧ j = .int .i64 (q : Int) ∧ Hid ((32 : UInt8) ∉ x.take q) ∧ wr = w1) (fun j _ => X.size - (intOf j).toNat)
        case atStart => exact ⟨0, Nat.zero_le _, by go_num, Lib.hid (by simp), rfl⟩
        case round =>
          obtain ⟨q, hq, rfl, HNQ, hwr⟩ := hrel
          obtain rfl : w1 = wr := hwr.symm
          by_cases hlq : q < X.size
          · obtain ⟨cc, hcc⟩ : ∃ cc, X[q] = cc := ⟨_, rfl⟩
            have HXJ := Lib.hid (show X[q] ∈ x from HXM.out q hlq)
            have e32 := oct32' X[q]
            have hTK := Lib.hid (HXT.out q hlq)
            rw [hcc] at e32 hTK HXJ
            have hxx : ((X[q].toNat : Nat) : Int) = (cc.toNat : Int) := by rw [hcc]
            have zq : (q : Int) < (X.size : Int) := by omega
            clear hcc
            generalize (cc.toNat : Int) = ci at *
            by_cases hcq : cc = 32
            · have e33 : (ci == 32) = true := by rw [e32]; simpa using hcq
              clear e32
              have E := Lib.hid (show F = none by rw [HF.out]; exact any_blank (List.mem_of_getElem? HX.out) (by rw [← hcq]; exact HXJ.out))
              have a0 := HA1.out.cell 0 rfl; have a1 := HA1.out.cell 1 rfl; have a2 := HA1.out.cell 2 rfl; have af := HA1.out.free
              go_wp2
              rw [E.out]
              refine bodyPost_ret (v := .tuple #[.agg #[.int .i64 0, .int .i64 0, .slice none 0 0], .bool false]) (by simp [results, Tryd.results23, go_sem, a0, a1, a2]) rfl (gives_none ?_)
              have B3 := B1.out
              repeat (first | (with_reducible exact B3) | (with_reducible refine up_set ?_ (by simp only; omega) _))
            · have e33 : (ci == 32) = false := by rw [e32]; simpa using hcq
              have HNQ2 := Lib.hid (show (32 : UInt8) ∉ x.take (q + 1) by
                rw [hTK.out]
                simp only [List.mem_append, List.mem_singleton, not_or]
                exact ⟨HNQ.out, fun e => hcq e.symm⟩)
              clear e32 hcq
              go_wp2
              go_roundw
              case rel => exact ⟨q + 1, by omega, by go_num, HNQ2, by trivial⟩
              case measure => simp [intOf]; omega
          · have HNX := Lib.hid (show (32 : UInt8) ∉ x by
              have := HNQ.out
              rwa [List.take_of_length_le (by have := HXS.out; omega)] at this)
            have HNB2 := Lib.hid (show ∀ y ∈ ls.take (k + 1), (32 : UInt8) ∉ y by
              rw [take_snoc HX.out]
              intro y hy
              rcases List.mem_append.1 hy with h | h
              · exact HNBk.out y h
              · obtain rfl := List.mem_singleton.1 h; exact HNX.out)
            go_wp2
            go_roundw
            case rel => exact ⟨k + 1, by omega, by rw [HJ2.out], by go_num, HNB2, by trivial⟩
            case measure => simp [intOf]; omega
      · have zk : 0 < k := by omega
        have zk2 : (0 : Int) < (k : Int) := by omega
        obtain ⟨U, hU⟩ : ∃ U, T ++ ⟨#[32]⟩ = U := ⟨_, rfl⟩
        have hUz : U.size ≤ 1221 := by rw [← hU, ByteArray.size_append]; show T.size + 1 ≤ 1221; omega
        have hsum : U ++ X = J := by
          rw [← hU, ← hT, ← hX, ← hJ, hjs, if_neg hk0, show (⟨#[32]⟩ : ByteArray) = tx [32] from rfl, tx_append, tx_append]
          simp
        clear hjs hX hT hJ hk0
        go_wp2
        go_loopw [6] (fun j wr => ∃ q : Nat, q ≤ X.size ∧ j = .int .i64 (q : Int) ∧ Hid ((32 : UInt8) ∉ x.take q) ∧ wr = w1) (fun j _ => X.size - (intOf j).toNat)
        case atStart => exact ⟨0, Nat.zero_le _, by go_num, Lib.hid (by simp), rfl⟩
        case round =>
          obtain ⟨q, hq, rfl, HNQ, hwr⟩ := hrel
          obtain rfl : w1 = wr := hwr.symm
          by_cases hlq : q < X.size
          · obtain ⟨cc, hcc⟩ : ∃ cc, X[q] = cc := ⟨_, rfl⟩
            have HXJ := Lib.hid (show X[q] ∈ x from HXM.out q hlq)
            have e32 := oct32' X[q]
            have hTK := Lib.hid (HXT.out q hlq)
            rw [hcc] at e32 hTK HXJ
            have hxx : ((X[q].toNat : Nat) : Int) = (cc.toNat : Int) := by rw [hcc]
            have zq : (q : Int) < (X.size : Int) := by omega
            clear hcc
            generalize (cc.toNat : Int) = ci at *
            by_cases hcq : cc = 32
            · have e33 : (ci == 32) = true := by rw [e32]; simpa using hcq
              clear e32
              have E := Lib.hid (show F = none by rw [HF.out]; exact any_blank (List.mem_of_getElem? HX.out) (by rw [← hcq]; exact HXJ.out))
              have a0 := HA1.out.cell 0 rfl; have a1 := HA1.out.cell 1 rfl; have a2 := HA1.out.cell 2 rfl; have af := HA1.out.free
              go_wp2
              rw [E.out]
              refine bodyPost_ret (v := .tuple #[.agg #[.int .i64 0, .int .i64 0, .slice none 0 0], .bool false]) (by simp [results, Tryd.results23, go_sem, a0, a1, a2]) rfl (gives_none ?_)
              have B3 := B1.out
              repeat (first | (with_reducible exact B3) | (with_reducible refine up_set ?_ (by simp only; omega) _))
            · have e33 : (ci == 32) = false := by rw [e32]; simpa using hcq
              have HNQ2 := Lib.hid (show (32 : UInt8) ∉ x.take (q + 1) by
                rw [hTK.out]
                simp only [List.mem_append, List.mem_singleton, not_or]
                exact ⟨HNQ.out, fun e => hcq e.symm⟩)
              clear e32 hcq
              go_wp2
              go_roundw
              case rel => exact ⟨q + 1, by omega, by go_num, HNQ2, by trivial⟩
              case measure => simp [intOf]; omega
          · have HNX := Lib.hid (show (32 : UInt8) ∉ x by
              have := HNQ.out
              rwa [List.take_of_length_le (by have := HXS.out; omega)] at this)
            have HNB2 := Lib.hid (show ∀ y ∈ ls.take (k + 1), (32 : UInt8) ∉ y by
              rw [take_snoc HX.out]
              intro y hy
              rcases List.mem_append.1 hy with h | h
              · exact HNBk.out y h
              · obtain rfl := List.mem_singleton.1 h; exact HNX.out)
            go_wp2
            go_roundw
            case rel => exact ⟨k + 1, by omega, by rw [HJ2.out], by go_num, HNB2, by trivial⟩
            case measure => simp [intOf]; omega
    · obtain rfl : k = n := by omega
      have hall : ls.take k = ls := List.take_of_length_le (by rw [HN.out]; omega)
      obtain ⟨q, hq, h32⟩ := HBL.out
      have := HNBk.out
      rw [hall] at this
      exact absurd h32 (this q hq)

set_option maxRecDepth 100000 in
set_option maxHeartbeats 4000000 in
theorem refGet_found (a : Option Addr) (c : Nat) (ls : List (List UInt8)) (w : World) (h : TxA w a c ls) (hz : ∀ x ∈ ls, x.length ≤ 60) (hl : ls.length ≤ 20) (F : Option Sc) (hb : ∀ q ∈ ls, (32 : UInt8) ∉ q) (s : Sc) (T : ByteArray) (iv eqv : Bool) (he : (T.toList == (tx (joinM ls)).toList) = eqv) (hF : F = if (iv && eqv) = true then some s else none)
    (KF : ∀ w1, Calls Tryd.prog 18 #[.string (tx (joinM ls))] w1 (GivesS (some s) w1))
    (KP : ∀ a3 c3 w1, InL w1 a3 s.l → Calls Tryd.prog 21 #[.agg #[.int .i64 s.c, .int .i64 s.r, .slice a3 s.l.length c3]] w1 fun e w' => e = .returned (.tuple #[.string T, .bool iv]) ∧ Below w1.heap.size w1 w') :
    Calls Tryd.prog 23 #[.slice a ls.length c] w (GivesS F w) := by
  obtain ⟨AL, hAL⟩ : ∃ AL, tx (joinM ls) = AL := ⟨_, rfl⟩
  have HAL := Lib.hid hAL
  rw [hAL] at he KF
  have hne : (T.toList != AL.toList) = !eqv := by unfold bne; rw [he]
  have HKF := Lib.hid KF; have HKP := Lib.hid KP; have HF := Lib.hid hF
  clear hAL KF KP hF
  have HNB := Lib.hid hb
  clear hb
  obtain ⟨n, hn⟩ : ∃ n, ls.length = n := ⟨_, rfl⟩
  have HN := Lib.hid hn; have HT := Lib.hid h; have HZ := Lib.hid hz
  rw [hn] at hl ⊢
  clear hn h hz
  have A1 := Bx.new w 24 [.int .i64 0, .int .i64 0, .slice none 0 0]
  have B1 := Lib.hid (up_alloc (Below.refl _ w) (.cells #[.int .i64 0, .int .i64 0, .slice none 0 0] 24))
  go_enter Tryd.func23, Tryd.ntmps23
  go_wp2
  generalize hw1 : w.alloc (.cells #[.int .i64 0, .int .i64 0, .slice none 0 0] 24) = w1 at *
  clear hw1
  have HA1 := Lib.hid A1
  have HT1 := Lib.hid (HT.out.up B1.out)
  clear A1
  go_loopw [4, 5] (fun t i wr => ∃ k : Nat, k ≤ n ∧ t = .string (tx (joinM (ls.take k))) ∧ i = .int .i64 (k : Int) ∧ Hid (∀ y ∈ ls.take k, (32 : UInt8) ∉ y) ∧ wr = w1) (fun _ i _ => n - (intOf i).toNat)
  case atStart => exact ⟨0, by omega, by simp [joinM, tx], by go_num, Lib.hid (by simp), rfl⟩
  case round =>
    obtain ⟨k, hk, rfl, rfl, HNBk, hwr⟩ := hrel
    obtain rfl : w1 = wr := hwr.symm
    clear hwr
    by_cases hlt : k < n
    · obtain ⟨x, hx⟩ : ∃ x, ls[k]? = some x := ⟨ls[k]'(by rw [HN.out]; exact hlt), List.getElem?_eq_getElem _⟩
      obtain ⟨g, o, rfl, hc, hcap, hmax⟩ := HT1.out.resolve_left (by rintro rfl; cases hx)
      have hcx := hc k x hx
      have hxz := HZ.out x (List.mem_of_getElem? hx)
      have hjs := join_step hx
      have htz := join_len (ls.take k) fun y hy => HZ.out y (List.mem_of_mem_take hy)
      rw [List.length_take, HN.out] at htz
      obtain ⟨X, hX⟩ : ∃ X, tx x = X := ⟨_, rfl⟩
      have hXs : X.size = x.length := by rw [← hX, tx_size]
      have HXS := Lib.hid hXs
      have HXM := Lib.hid (show ∀ q (hq : q < X.size), X[q] ∈ x by subst hX; intro q hq; exact List.getElem_mem _)
      have HXT := Lib.hid (show ∀ q (hq : q < X.size), x.take (q + 1) = x.take q ++ [X[q]] by
        subst hX
        intro q hq
        rw [tx_size] at hq
        exact List.take_succ_eq_append_getElem hq)
      have HX := Lib.hid hx
      obtain ⟨T, hT⟩ : ∃ T, tx (joinM (ls.take k)) = T := ⟨_, rfl⟩
      have hTz : T.size ≤ 1220 := by rw [← hT, tx_size]; omega
      obtain ⟨J, hJ⟩ : ∃ J, tx (joinM (ls.take (k + 1))) = J := ⟨_, rfl⟩
      have HJ2 := Lib.hid hJ
      have hXz : X.size ≤ 60 := by omega
      rw [hX] at hcx
      rw [hT]
      have z0 : (0 : Int) ≤ (k : Int) := by omega
      have z1 : (k : Int) < (n : Int) := by omega
      clear hx hc hcap hxz htz hXs
      by_cases hk0 : k = 0
      · have zk : decide ((0 : Nat) < k) = false := by simp; omega
        have zk2 : decide ((0 : Int) < (k : Int)) = false := by simp; omega
        have hsum : T ++ X = J := by
          rw [← hT, ← hX, ← hJ, hjs, if_pos hk0, tx_append]
          subst hk0
          simp [joinM]
        clear hjs hX hT hJ hk0
        go_wp2
        go_loopw [6] (fun j wr => ∃ q : Nat, q ≤ X.size ∧ j = .int .i64 (q : Int) ∧ Hid ((32 : UInt8) ∉ x.take q) ∧ wr = w1) (fun j _ => X.size - (intOf j).toNat)
        case atStart => exact ⟨0, Nat.zero_le _, by go_num, Lib.hid (by simp), rfl⟩
        case round =>
          obtain ⟨q, hq, rfl, HNQ, hwr⟩ := hrel
          obtain rfl : w1 = wr := hwr.symm
          by_cases hlq : q < X.size
          · obtain ⟨cc, hcc⟩ : ∃ cc, X[q] = cc := ⟨_, rfl⟩
            have HXJ := Lib.hid (show X[q] ∈ x from HXM.out q hlq)
            have e32 := oct32' X[q]
            have hTK := Lib.hid (HXT.out q hlq)
            rw [hcc] at e32 hTK HXJ
            have hxx : ((X[q].toNat : Nat) : Int) = (cc.toNat : Int) := by rw [hcc]
            have zq : (q : Int) < (X.size : Int) := by omega
            clear hcc
            generalize (cc.toNat : Int) = ci at *
            by_cases hcq : cc = 32
            · have e33 : (ci == 32) = true := by rw [e32]; simpa using hcq
              clear e32
              exact absurd (by rw [← hcq]; exact HXJ.out) (HNB.out x (List.mem_of_getElem? HX.out))
            · have e33 : (ci == 32) = false := by rw [e32]; simpa using hcq
              have HNQ2 := Lib.hid (show (32 : UInt8) ∉ x.take (q + 1) by
                rw [hTK.out]
                simp only [List.mem_append, List.mem_singleton, not_or]
                exact ⟨HNQ.out, fun e => hcq e.symm⟩)
              clear e32 hcq
              go_wp2
              go_roundw
              case rel => exact ⟨q + 1, by omega, by go_num, HNQ2, by trivial⟩
              case measure => simp [intOf]; omega
          · have HNX := Lib.hid (show (32 : UInt8) ∉ x by
              have := HNQ.out
              rwa [List.take_of_length_le (by have := HXS.out; omega)] at this)
            have HNB2 := Lib.hid (show ∀ y ∈ ls.take (k + 1), (32 : UInt8) ∉ y by
              rw [take_snoc HX.out]
              intro y hy
              rcases List.mem_append.1 hy with h | h
              · exact HNBk.out y h
              · obtain rfl := List.mem_singleton.1 h; exact HNX.out)
            go_wp2
            go_roundw
            case rel => exact ⟨k + 1, by omega, by rw [HJ2.out], by go_num, HNB2, by trivial⟩
            case measure => simp [intOf]; omega
      · have zk : 0 < k := by omega
        have zk2 : (0 : Int) < (k : Int) := by omega
        obtain ⟨U, hU⟩ : ∃ U, T ++ ⟨#[32]⟩ = U := ⟨_, rfl⟩
        have hUz : U.size ≤ 1221 := by rw [← hU, ByteArray.size_append]; show T.size + 1 ≤ 1221; omega
        have hsum : U ++ X = J := by
          rw [← hU, ← hT, ← hX, ← hJ, hjs, if_neg hk0, show (⟨#[32]⟩ : ByteArray) = tx [32] from rfl, tx_append, tx_append]
          simp
        clear hjs hX hT hJ hk0
        go_wp2
        go_loopw [6] (fun j wr => ∃ q : Nat, q ≤ X.size ∧ j = .int .i64 (q : Int) ∧ Hid ((32 : UInt8) ∉ x.take q) ∧ wr = w1) (fun j _ => X.size - (intOf j).toNat)
        case atStart => exact ⟨0, Nat.zero_le _, by go_num, Lib.hid (by simp), rfl⟩
        case round =>
          obtain ⟨q, hq, rfl, HNQ, hwr⟩ := hrel
          obtain rfl : w1 = wr := hwr.symm
          by_cases hlq : q < X.size
          · obtain ⟨cc, hcc⟩ : ∃ cc, X[q] = cc := ⟨_, rfl⟩
            have HXJ := Lib.hid (show X[q] ∈ x from HXM.out q hlq)
            have e32 := oct32' X[q]
            have hTK := Lib.hid (HXT.out q hlq)
            rw [hcc] at e32 hTK HXJ
            have hxx : ((X[q].toNat : Nat) : Int) = (cc.toNat : Int) := by rw [hcc]
            have zq : (q : Int) < (X.size : Int) := by omega
            clear hcc
            generalize (cc.toNat : Int) = ci at *
            by_cases hcq : cc = 32
            · have e33 : (ci == 32) = true := by rw [e32]; simpa using hcq
              clear e32
              exact absurd (by rw [← hcq]; exact HXJ.out) (HNB.out x (List.mem_of_getElem? HX.out))
            · have e33 : (ci == 32) = false := by rw [e32]; simpa using hcq
              have HNQ2 := Lib.hid (show (32 : UInt8) ∉ x.take (q + 1) by
                rw [hTK.out]
                simp only [List.mem_append, List.mem_singleton, not_or]
                exact ⟨HNQ.out, fun e => hcq e.symm⟩)
              clear e32 hcq
              go_wp2
              go_roundw
              case rel => exact ⟨q + 1, by omega, by go_num, HNQ2, by trivial⟩
              case measure => simp [intOf]; omega
          · have HNX := Lib.hid (show (32 : UInt8) ∉ x by
              have := HNQ.out
              rwa [List.take_of_length_le (by have := HXS.out; omega)] at this)
            have HNB2 := Lib.hid (show ∀ y ∈ ls.take (k + 1), (32 : UInt8) ∉ y by
              rw [take_snoc HX.out]
              intro y hy
              rcases List.mem_append.1 hy with h | h
              · exact HNBk.out y h
              · obtain rfl := List.mem_singleton.1 h; exact HNX.out)
            go_wp2
            go_roundw
            case rel => exact ⟨k + 1, by omega, by rw [HJ2.out], by go_num, HNB2, by trivial⟩
            case measure => simp [intOf]; omega
    · obtain rfl : k = n := by omega
      have hall : ls.take k = ls := List.take_of_length_le (by rw [HN.out]; omega)
      rw [hall]
      rw [HAL.out]
      clear hall
      have hlt1 := HA1.out.lt
      go_wp2_with fail
      refine (HKF.out _).mono ?_
      rintro e2 w2 ⟨a3, c3, rfl, hF3, hb⟩
      have hF' : InF (w.heap.size + 1) w2 a3 s.l := InF.mono hF3 hlt1
      have HR2 := Lib.hid (hF'.up (up_alloc (Below.refl _ _) (.cells #[.int .i64 s.c, .int .i64 s.r, .slice a3 s.l.length c3] 24)))
      have A2 := (HA1.out.up hb).alloc (.cells #[.int .i64 s.c, .int .i64 s.r, .slice a3 s.l.length c3] 24)
      have X2 := Bx.new w2 24 [.int .i64 s.c, .int .i64 s.r, .slice a3 s.l.length c3]
      have B2 := Lib.hid (up_alloc (up_trans B1.out hb) (.cells #[.int .i64 s.c, .int .i64 s.r, .slice a3 s.l.length c3] 24))
      clear hF3 hF' hb
      go_wp2_with fail
      refine (HKP.out _ _ _ HR2.out.inL).mono ?_
      rintro e3 w3 ⟨rfl, hb⟩
      have A3 := A2.up hb
      have X3 := X2.up hb
      have HR3 := Lib.hid (HR2.out.up hb)
      have B3 := Lib.hid (up_trans B2.out hb)
      have a0 := A3.cell 0 rfl; have a1 := A3.cell 1 rfl; have a2 := A3.cell 2 rfl; have af := A3.free
      have x0 := X3.cell 0 rfl; have x1 := X3.cell 1 rfl; have x2 := X3.cell 2 rfl
      clear hb A2 X2 A3 X3
      cases iv
      · have E := Lib.hid (show F = none by rw [HF.out]; rfl)
        go_wp2
        rw [E.out]
        refine bodyPost_ret (v := .tuple #[.agg #[.int .i64 0, .int .i64 0, .slice none 0 0], .bool false]) (by simp [results, Tryd.results23, go_sem, a0, a1, a2]) rfl (gives_none ?_)
        have B4 := B3.out
        repeat (first | (with_reducible exact B4) | (with_reducible refine up_set ?_ (by simp only; omega) _))
      cases eqv
      · have E := Lib.hid (show F = none by rw [HF.out]; rfl)
        go_wp2
        rw [E.out]
        refine bodyPost_ret (v := .tuple #[.agg #[.int .i64 0, .int .i64 0, .slice none 0 0], .bool false]) (by simp [results, Tryd.results23, go_sem, a0, a1, a2]) rfl (gives_none ?_)
        have B4 := B3.out
        repeat (first | (with_reducible exact B4) | (with_reducible refine up_set ?_ (by simp only; omega) _))
      · have E := Lib.hid (show F = some s by rw [HF.out]; rfl)
        go_wp2
        rw [E.out]
        refine bodyPost_ret (v := .tuple #[.agg #[.int .i64 s.c, .int .i64 s.r, .slice a3 s.l.length c3], .bool true]) (by simp [results, Tryd.results23, go_sem, a0, a1, a2]) rfl (gives_some ?_ ?_)
        · have HR4 := HR3.out
          refine InF.mono (base := w.heap.size + 1) ?_ (by omega)
          repeat (first | (with_reducible exact HR4) | (with_reducible refine InF.set ?_ (by simp only; omega) _))
        · have B4 := B3.out
          repeat (first | (with_reducible exact B4) | (with_reducible refine up_set ?_ (by simp only; omega) _))

set_option maxRecDepth 100000 in
set_option maxHeartbeats 4000000 in
theorem refGet_told (a : Option Addr) (c : Nat) (ls : List (List UInt8)) (w : World) (h : TxA w a c ls) (hz : ∀ x ∈ ls, x.length ≤ 60) (hl : ls.length ≤ 20) (F : Option Sc) (hb : ∀ q ∈ ls, (32 : UInt8) ∉ q) (s : Sc) (T : ByteArray) (iv eqv : Bool) (he : (T.toList == (tx (joinM ls)).toList) = eqv) (hF : F = if (iv && eqv) = true then some s else none)
    (KN : ∀ w1, Calls Tryd.prog 18 #[.string (tx (joinM ls))] w1 (GivesS none w1))
    (KF : ∀ w1, Calls Tryd.prog 34 #[.string (tx (joinM ls))] w1 (GivesS (some s) w1))
    (KP : ∀ a3 c3 w1, InL w1 a3 s.l → Calls Tryd.prog 21 #[.agg #[.int .i64 s.c, .int .i64 s.r, .slice a3 s.l.length c3]] w1 fun e w' => e = .returned (.tuple #[.string T, .bool iv]) ∧ Below w1.heap.size w1 w') :
    Calls Tryd.prog 23 #[.slice a ls.length c] w (GivesS F w) := by
  obtain ⟨AL, hAL⟩ : ∃ AL, tx (joinM ls) = AL := ⟨_, rfl⟩
  have HAL := Lib.hid hAL
  rw [hAL] at he KF KN
  have hne : (T.toList != AL.toList) = !eqv := by unfold bne; rw [he]
  have HKF := Lib.hid KF; have HKN := Lib.hid KN; have HKP := Lib.hid KP; have HF := Lib.hid hF
  clear hAL KF KN KP hF
  have HNB := Lib.hid hb
  clear hb
  obtain ⟨n, hn⟩ : ∃ n, ls.length = n := ⟨_, rfl⟩
  have HN := Lib.hid hn; have HT := Lib.hid h; have HZ := Lib.hid hz
  rw [hn] at hl ⊢
  clear hn h hz
  have A1 := Bx.new w 24 [.int .i64 0, .int .i64 0, .slice none 0 0]
  have B1 := Lib.hid (up_alloc (Below.refl _ w) (.cells #[.int .i64 0, .int .i64 0, .slice none 0 0] 24))
  go_enter Tryd.func23, Tryd.ntmps23
  go_wp2
  generalize hw1 : w.alloc (.cells #[.int .i64 0, .int .i64 0, .slice none 0 0] 24) = w1 at *
  clear hw1
  have HA1 := Lib.hid A1
  have HT1 := Lib.hid (HT.out.up B1.out)
  clear A1
  go_loopw [4, 5] (fun t i wr => ∃ k : Nat, k ≤ n ∧ t = .string (tx (joinM (ls.take k))) ∧ i = .int .i64 (k : Int) ∧ Hid (∀ y ∈ ls.take k, (32 : UInt8) ∉ y) ∧ wr = w1) (fun _ i _ => n - (intOf i).toNat)
  case atStart => exact ⟨0, by omega, by simp [joinM, tx], by go_num, Lib.hid (by simp), rfl⟩
  case round =>
    obtain ⟨k, hk, rfl, rfl, HNBk, hwr⟩ := hrel
    obtain rfl : w1 = wr := hwr.symm
    clear hwr
    by_cases hlt : k < n
    · obtain ⟨x, hx⟩ : ∃ x, ls[k]? = some x := ⟨ls[k]'(by rw [HN.out]; exact hlt), List.getElem?_eq_getElem _⟩
      obtain ⟨g, o, rfl, hc, hcap, hmax⟩ := HT1.out.resolve_left (by rintro rfl; cases hx)
      have hcx := hc k x hx
      have hxz := HZ.out x (List.mem_of_getElem? hx)
      have hjs := join_step hx
      have htz := join_len (ls.take k) fun y hy => HZ.out y (List.mem_of_mem_take hy)
      rw [List.length_take, HN.out] at htz
      obtain ⟨X, hX⟩ : ∃ X, tx x = X := ⟨_, rfl⟩
      have hXs : X.size = x.length := by rw [← hX, tx_size]
      have HXS := Lib.hid hXs
      have HXM := Lib.hid (show ∀ q (hq : q < X.size), X[q] ∈ x by subst hX; intro q hq; exact List.getElem_mem _)
      have HXT := Lib.hid (show ∀ q (hq : q < X.size), x.take (q + 1) = x.take q ++ [X[q]] by
        subst hX
        intro q hq
        rw [tx_size] at hq
        exact List.take_succ_eq_append_getElem hq)
      have HX := Lib.hid hx
      obtain ⟨T, hT⟩ : ∃ T, tx (joinM (ls.take k)) = T := ⟨_, rfl⟩
      have hTz : T.size ≤ 1220 := by rw [← hT, tx_size]; omega
      obtain ⟨J, hJ⟩ : ∃ J, tx (joinM (ls.take (k + 1))) = J := ⟨_, rfl⟩
      have HJ2 := Lib.hid hJ
      have hXz : X.size ≤ 60 := by omega
      rw [hX] at hcx
      rw [hT]
      have z0 : (0 : Int) ≤ (k : Int) := by omega
      have z1 : (k : Int) < (n : Int) := by omega
      clear hx hc hcap hxz htz hXs
      by_cases hk0 : k = 0
      · have zk : decide ((0 : Nat) < k) = false := by simp; omega
        have zk2 : decide ((0 : Int) < (k : Int)) = false := by simp; omega
        have hsum : T ++ X = J := by
          rw [← hT, ← hX, ← hJ, hjs, if_pos hk0, tx_append]
          subst hk0
          simp [joinM]
        clear hjs hX hT hJ hk0
        go_wp2
        go_loopw [6] (fun j wr => ∃ q : Nat, q ≤ X.size ∧ j = .int .i64 (q : Int) ∧ Hid ((32 : UInt8) ∉ x.take q) ∧ wr = w1) (fun j _ => X.size - (intOf j).toNat)
        case atStart => exact ⟨0, Nat.zero_le _, by go_num, Lib.hid (by simp), rfl⟩
        case round =>
          obtain ⟨q, hq, rfl, HNQ, hwr⟩ := hrel
          obtain rfl : w1 = wr := hwr.symm
          by_cases hlq : q < X.size
          · obtain ⟨cc, hcc⟩ : ∃ cc, X[q] = cc := ⟨_, rfl⟩
            have HXJ := Lib.hid (show X[q] ∈ x from HXM.out q hlq)
            have e32 := oct32' X[q]
            have hTK := Lib.hid (HXT.out q hlq)
            rw [hcc] at e32 hTK HXJ
            have hxx : ((X[q].toNat : Nat) : Int) = (cc.toNat : Int) := by rw [hcc]
            have zq : (q : Int) < (X.size : Int) := by omega
            clear hcc
            generalize (cc.toNat : Int) = ci at *
            by_cases hcq : cc = 32
            · have e33 : (ci == 32) = true := by rw [e32]; simpa using hcq
              clear e32
              exact absurd (by rw [← hcq]; exact HXJ.out) (HNB.out x (List.mem_of_getElem? HX.out))
            · have e33 : (ci == 32) = false := by rw [e32]; simpa using hcq
              have HNQ2 := Lib.hid (show (32 : UInt8) ∉ x.take (q + 1) by
                rw [hTK.out]
                simp only [List.mem_append, List.mem_singleton, not_or]
                exact ⟨HNQ.out, fun e => hcq e.symm⟩)
              clear e32 hcq
              go_wp2
              go_roundw
              case rel => exact ⟨q + 1, by omega, by go_num, HNQ2, by trivial⟩
              case measure => simp [intOf]; omega
          · have HNX := Lib.hid (show (32 : UInt8) ∉ x by
              have := HNQ.out
              rwa [List.take_of_length_le (by have := HXS.out; omega)] at this)
            have HNB2 := Lib.hid (show ∀ y ∈ ls.take (k + 1), (32 : UInt8) ∉ y by
              rw [take_snoc HX.out]
              intro y hy
              rcases List.mem_append.1 hy with h | h
              · exact HNBk.out y h
              · obtain rfl := List.mem_singleton.1 h; exact HNX.out)
            go_wp2
            go_roundw
            case rel => exact ⟨k + 1, by omega, by rw [HJ2.out], by go_num, HNB2, by trivial⟩
            case measure => simp [intOf]; omega
      · have zk : 0 < k := by omega
        have zk2 : (0 : Int) < (k : Int) := by omega
        obtain ⟨U, hU⟩ : ∃ U, T ++ ⟨#[32]⟩ = U := ⟨_, rfl⟩
        have hUz : U.size ≤ 1221 := by rw [← hU, ByteArray.size_append]; show T.size + 1 ≤ 1221; omega
        have hsum : U ++ X = J := by
          rw [← hU, ← hT, ← hX, ← hJ, hjs, if_neg hk0, show (⟨#[32]⟩ : ByteArray) = tx [32] from rfl, tx_append, tx_append]
          simp
        clear hjs hX hT hJ hk0
        go_wp2
        go_loopw [6] (fun j wr => ∃ q : Nat, q ≤ X.size ∧ j = .int .i64 (q : Int) ∧ Hid ((32 : UInt8) ∉ x.take q) ∧ wr = w1) (fun j _ => X.size - (intOf j).toNat)
        case atStart => exact ⟨0, Nat.zero_le _, by go_num, Lib.hid (by simp), rfl⟩
        case round =>
          obtain ⟨q, hq, rfl, HNQ, hwr⟩ := hrel
          obtain rfl : w1 = wr := hwr.symm
          by_cases hlq : q < X.size
          · obtain ⟨cc, hcc⟩ : ∃ cc, X[q] = cc := ⟨_, rfl⟩
            have HXJ := Lib.hid (show X[q] ∈ x from HXM.out q hlq)
            have e32 := oct32' X[q]
            have hTK := Lib.hid (HXT.out q hlq)
            rw [hcc] at e32 hTK HXJ
            have hxx : ((X[q].toNat : Nat) : Int) = (cc.toNat : Int) := by rw [hcc]
            have zq : (q : Int) < (X.size : Int) := by omega
            clear hcc
            generalize (cc.toNat : Int) = ci at *
            by_cases hcq : cc = 32
            · have e33 : (ci == 32) = true := by rw [e32]; simpa using hcq
              clear e32
              exact absurd (by rw [← hcq]; exact HXJ.out) (HNB.out x (List.mem_of_getElem? HX.out))
            · have e33 : (ci == 32) = false := by rw [e32]; simpa using hcq
              have HNQ2 := Lib.hid (show (32 : UInt8) ∉ x.take (q + 1) by
                rw [hTK.out]
                simp only [List.mem_append, List.mem_singleton, not_or]
                exact ⟨HNQ.out, fun e => hcq e.symm⟩)
              clear e32 hcq
              go_wp2
              go_roundw
              case rel => exact ⟨q + 1, by omega, by go_num, HNQ2, by trivial⟩
              case measure => simp [intOf]; omega
          · have HNX := Lib.hid (show (32 : UInt8) ∉ x by
              have := HNQ.out
              rwa [List.take_of_length_le (by have := HXS.out; omega)] at this)
            have HNB2 := Lib.hid (show ∀ y ∈ ls.take (k + 1), (32 : UInt8) ∉ y by
              rw [take_snoc HX.out]
              intro y hy
              rcases List.mem_append.1 hy with h | h
              · exact HNBk.out y h
              · obtain rfl := List.mem_singleton.1 h; exact HNX.out)
            go_wp2
            go_roundw
            case rel => exact ⟨k + 1, by omega, by rw [HJ2.out], by go_num, HNB2, by trivial⟩
            case measure => simp [intOf]; omega
    · obtain rfl : k = n := by omega
      have hall : ls.take k = ls := List.take_of_length_le (by rw [HN.out]; omega)
      rw [hall]
      rw [HAL.out]
      clear hall
      have hlt1 := HA1.out.lt
      go_wp2_with fail
      refine ((HKN.out _).mono fun _ _ => gives_no).mono ?_
      rintro e2 w2 ⟨a4, c4, rfl, hb⟩
      have A2 := (HA1.out.up hb).alloc (.cells #[.int .i64 0, .int .i64 0, .slice a4 0 c4] 24)
      have X2 := Bx.new w2 24 [.int .i64 0, .int .i64 0, .slice a4 0 c4]
      have B2 := Lib.hid (up_alloc (up_trans B1.out hb) (.cells #[.int .i64 0, .int .i64 0, .slice a4 0 c4] 24))
      have hlt2 : w.heap.size < w2.heap.size := (HA1.out.up hb).lt
      obtain ⟨X7, hX7⟩ : ∃ X7, w2.heap.size = X7 := ⟨_, rfl⟩
      have hsz2 : (w2.alloc (.cells #[.int .i64 0, .int .i64 0, .slice a4 0 c4] 24)).heap.size = X7 + 1 := by simp [hX7]
      rw [hX7] at X2 hlt2
      clear hb
      go_wp2_with fail
      refine (HKF.out _).mono ?_
      rintro e2 w3 ⟨a3, c3, rfl, hF3, hb⟩
      have hF' : InF (X7 + 1) w3 a3 s.l := InF.mono hF3 (by omega)
      have A3 := A2.up hb
      have X3 := X2.up hb
      have B3' := Lib.hid (up_trans B2.out hb)
      have HR2 := Lib.hid (((hF'.set (p := ⟨X7, 0, none⟩) (by simp only; omega) (.int .i64 s.c)).set (p := ⟨X7, 1, none⟩) (by simp only; omega) (.int .i64 s.r)).set (p := ⟨X7, 2, none⟩) (by simp only; omega) (.slice a3 s.l.length c3))
      have A4 := ((A3.far (p := ⟨X7, 0, none⟩) (by simp only; omega) (.int .i64 s.c)).far (p := ⟨X7, 1, none⟩) (by simp only; omega) (.int .i64 s.r)).far (p := ⟨X7, 2, none⟩) (by simp only; omega) (.slice a3 s.l.length c3)
      have X4 := X3.set3 (.int .i64 s.c) (.int .i64 s.r) (.slice a3 s.l.length c3)
      have B4' := Lib.hid (up_set (up_set (up_set B3'.out (p := ⟨X7, 0, none⟩) (by simp only; omega) (.int .i64 s.c)) (p := ⟨X7, 1, none⟩) (by simp only; omega) (.int .i64 s.r)) (p := ⟨X7, 2, none⟩) (by simp only; omega) (.slice a3 s.l.length c3))
      have y0 := X3.cell 0 rfl; have y1 := X3.cell 1 rfl; have y2 := X3.cell 2 rfl; have yf := X3.free
      clear hF3 hF' hb A2 X2 A3 X3 hsz2
      go_wp2_with fail
      refine (HKP.out _ _ _ HR2.out.inL).mono ?_
      rintro e3 w4 ⟨rfl, hb⟩
      have A5 := A4.up hb
      have X5 := X4.up hb
      have HR3 := Lib.hid ((HR2.out.up hb).mono (base' := w.heap.size + 1) (by omega))
      have B3 := Lib.hid (up_trans B4'.out hb)
      have a0 := A5.cell 0 rfl; have a1 := A5.cell 1 rfl; have a2 := A5.cell 2 rfl; have af := A5.free
      have x0 := X5.cell 0 rfl; have x1 := X5.cell 1 rfl; have x2 := X5.cell 2 rfl
      clear hb A4 X4 A5 X5 y0 y1 y2 yf
      cases iv
      · have E := Lib.hid (show F = none by rw [HF.out]; rfl)
        go_wp2
        rw [E.out]
        refine bodyPost_ret (v := .tuple #[.agg #[.int .i64 0, .int .i64 0, .slice none 0 0], .bool false]) (by simp [results, Tryd.results23, go_sem, a0, a1, a2]) rfl (gives_none ?_)
        have B4 := B3.out
        repeat (first | (with_reducible exact B4) | (with_reducible refine up_set ?_ (by simp only; omega) _))
      cases eqv
      · have E := Lib.hid (show F = none by rw [HF.out]; rfl)
        go_wp2
        rw [E.out]
        refine bodyPost_ret (v := .tuple #[.agg #[.int .i64 0, .int .i64 0, .slice none 0 0], .bool false]) (by simp [results, Tryd.results23, go_sem, a0, a1, a2]) rfl (gives_none ?_)
        have B4 := B3.out
        repeat (first | (with_reducible exact B4) | (with_reducible refine up_set ?_ (by simp only; omega) _))
      · have E := Lib.hid (show F = some s by rw [HF.out]; rfl)
        go_wp2
        rw [E.out]
        refine bodyPost_ret (v := .tuple #[.agg #[.int .i64 s.c, .int .i64 s.r, .slice a3 s.l.length c3], .bool true]) (by simp [results, Tryd.results23, go_sem, a0, a1, a2]) rfl (gives_some ?_ ?_)
        · have HR4 := HR3.out
          refine InF.mono (base := w.heap.size + 1) ?_ (by omega)
          repeat (first | (with_reducible exact HR4) | (with_reducible refine InF.set ?_ (by simp only; omega) _))
        · have B4 := B3.out
          repeat (first | (with_reducible exact B4) | (with_reducible refine up_set ?_ (by simp only; omega) _))

set_option maxRecDepth 100000 in
set_option maxHeartbeats 4000000 in
theorem refGet_none (a : Option Addr) (c : Nat) (ls : List (List UInt8)) (w : World) (h : TxA w a c ls) (hz : ∀ x ∈ ls, x.length ≤ 60) (hl : ls.length ≤ 20) (F : Option Sc) (hb : ∀ q ∈ ls, (32 : UInt8) ∉ q) (T : ByteArray) (iv : Bool) (hF : F = none)
    (KN : ∀ w1, Calls Tryd.prog 18 #[.string (tx (joinM ls))] w1 (GivesS none w1))
    (KF : ∀ w1, Calls Tryd.prog 34 #[.string (tx (joinM ls))] w1 (GivesS none w1))
    (KP : ∀ a3 c3 w1, Calls Tryd.prog 21 #[.agg #[.int .i64 0, .int .i64 0, .slice a3 0 c3]] w1 fun e w' => e = .returned (.tuple #[.string T, .bool iv]) ∧ Below w1.heap.size w1 w') :
    Calls Tryd.prog 23 #[.slice a ls.length c] w (GivesS F w) := by
  obtain ⟨AL, hAL⟩ : ∃ AL, tx (joinM ls) = AL := ⟨_, rfl⟩
  have HAL := Lib.hid hAL
  rw [hAL] at KF KN
  have HKF := Lib.hid KF; have HKN := Lib.hid KN; have HKP := Lib.hid KP; have HF := Lib.hid hF
  clear hAL KF KN KP hF
  have HNB := Lib.hid hb
  clear hb
  obtain ⟨n, hn⟩ : ∃ n, ls.length = n := ⟨_, rfl⟩
  have HN := Lib.hid hn; have HT := Lib.hid h; have HZ := Lib.hid hz
  rw [hn] at hl ⊢
  clear hn h hz
  have A1 := Bx.new w 24 [.int .i64 0, .int .i64 0, .slice none 0 0]
  have B1 := Lib.hid (up_alloc (Below.refl _ w) (.cells #[.int .i64 0, .int .i64 0, .slice none 0 0] 24))
  go_enter Tryd.func23, Tryd.ntmps23
  go_wp2
  generalize hw1 : w.alloc (.cells #[.int .i64 0, .int .i64 0, .slice none 0 0] 24) = w1 at *
  clear hw1
  have HA1 := Lib.hid A1
  have HT1 := Lib.hid (HT.out.up B1.out)
  clear A1
  go_loopw [4, 5] (fun t i wr => ∃ k : Nat, k ≤ n ∧ t = .string (tx (joinM (ls.take k))) ∧ i = .int .i64 (k : Int) ∧ Hid (∀ y ∈ ls.take k, (32 : UInt8) ∉ y) ∧ wr = w1) (fun _ i _ => n - (intOf i).toNat)
  case atStart => exact ⟨0, by omega, by simp [joinM, tx], by go_num, Lib.hid (by simp), rfl⟩
  case round =>
    obtain ⟨k, hk, rfl, rfl, HNBk, hwr⟩ := hrel
    obtain rfl : w1 = wr := hwr.symm
    clear hwr
    by_cases hlt : k < n
    · obtain ⟨x, hx⟩ : ∃ x, ls[k]? = some x := ⟨ls[k]'(by rw [HN.out]; exact hlt), List.getElem?_eq_getElem _⟩
      obtain ⟨g, o, rfl, hc, hcap, hmax⟩ := HT1.out.resolve_left (by rintro rfl; cases hx)
      have hcx := hc k x hx
      have hxz := HZ.out x (List.mem_of_getElem? hx)
      have hjs := join_step hx
      have htz := join_len (ls.take k) fun y hy => HZ.out y (List.mem_of_mem_take hy)
      rw [List.length_take, HN.out] at htz
      obtain ⟨X, hX⟩ : ∃ X, tx x = X := ⟨_, rfl⟩
      have hXs : X.size = x.length := by rw [← hX, tx_size]
      have HXS := Lib.hid hXs
      have HXM := Lib.hid (show ∀ q (hq : q < X.size), X[q] ∈ x by subst hX; intro q hq; exact List.getElem_mem _)
      have HXT := Lib.hid (show ∀ q (hq : q < X.size), x.take (q + 1) = x.take q ++ [X[q]] by
        subst hX
        intro q hq
        rw [tx_size] at hq
        exact List.take_succ_eq_append_getElem hq)
      have HX := Lib.hid hx
      obtain ⟨T, hT⟩ : ∃ T, tx (joinM (ls.take k)) = T := ⟨_, rfl⟩
      have hTz : T.size ≤ 1220 := by rw [← hT, tx_size]; omega
      obtain ⟨J, hJ⟩ : ∃ J, tx (joinM (ls.take (k + 1))) = J := ⟨_, rfl⟩
      have HJ2 := Lib.hid hJ
      have hXz : X.size ≤ 60 := by omega
      rw [hX] at hcx
      rw [hT]
      have z0 : (0 : Int) ≤ (k : Int) := by omega
      have z1 : (k : Int) < (n : Int) := by omega
      clear hx hc hcap hxz htz hXs
      by_cases hk0 : k = 0
      · have zk : decide ((0 : Nat) < k) = false := by simp; omega
        have zk2 : decide ((0 : Int) < (k : Int)) = false := by simp; omega
        have hsum : T ++ X = J := by
          rw [← hT, ← hX, ← hJ, hjs, if_pos hk0, tx_append]
          subst hk0
          simp [joinM]
        clear hjs hX hT hJ hk0
        go_wp2
        go_loopw [6] (fun j wr => ∃ q : Nat, q ≤ X.size ∧ j = .int .i64 (q : Int) ∧ Hid ((32 : UInt8) ∉ x.take q) ∧ wr = w1) (fun j _ => X.size - (intOf j).toNat)
        case atStart => exact ⟨0, Nat.zero_le _, by go_num, Lib.hid (by simp), rfl⟩
        case round =>
          obtain ⟨q, hq, rfl, HNQ, hwr⟩ := hrel
          obtain rfl : w1 = wr := hwr.symm
          by_cases hlq : q < X.size
          · obtain ⟨cc, hcc⟩ : ∃ cc, X[q] = cc := ⟨_, rfl⟩
            have HXJ := Lib.hid (show X[q] ∈ x from HXM.out q hlq)
            have e32 := oct32' X[q]
            have hTK := Lib.hid (HXT.out q hlq)
            rw [hcc] at e32 hTK HXJ
            have hxx : ((X[q].toNat : Nat) : Int) = (cc.toNat : Int) := by rw [hcc]
            have zq : (q : Int) < (X.size : Int) := by omega
            clear hcc
            generalize (cc.toNat : Int) = ci at *
            by_cases hcq : cc = 32
            · have e33 : (ci == 32) = true := by rw [e32]; simpa using hcq
              clear e32
              exact absurd (by rw [← hcq]; exact HXJ.out) (HNB.out x (List.mem_of_getElem? HX.out))
            · have e33 : (ci == 32) = false := by rw [e32]; simpa using hcq
              have HNQ2 := Lib.hid (show (32 : UInt8) ∉ x.take (q + 1) by
                rw [hTK.out]
                simp only [List.mem_append, List.mem_singleton, not_or]
                exact ⟨HNQ.out, fun e => hcq e.symm⟩)
              clear e32 hcq
              go_wp2
              go_roundw
              case rel => exact ⟨q + 1, by omega, by go_num, HNQ2, by trivial⟩
              case measure => simp [intOf]; omega
          · have HNX := Lib.hid (show (32 : UInt8) ∉ x by
              have := HNQ.out
              rwa [List.take_of_length_le (by have := HXS.out; omega)] at this)
            have HNB2 := Lib.hid (show ∀ y ∈ ls.take (k + 1), (32 : UInt8) ∉ y by
              rw [take_snoc HX.out]
              intro y hy
              rcases List.mem_append.1 hy with h | h
              · exact HNBk.out y h
              · obtain rfl := List.mem_singleton.1 h; exact HNX.out)
            go_wp2
            go_roundw
            case rel => exact ⟨k + 1, by omega, by rw [HJ2.out], by go_num, HNB2, by trivial⟩
            case measure => simp [intOf]; omega
      · have zk : 0 < k := by omega
        have zk2 : (0 : Int) < (k : Int) := by omega
        obtain ⟨U, hU⟩ : ∃ U, T ++ ⟨#[32]⟩ = U := ⟨_, rfl⟩
        have hUz : U.size ≤ 1221 := by rw [← hU, ByteArray.size_append]; show T.size + 1 ≤ 1221; omega
        have hsum : U ++ X = J := by
          rw [← hU, ← hT, ← hX, ← hJ, hjs, if_neg hk0, show (⟨#[32]⟩ : ByteArray) = tx [32] from rfl, tx_append, tx_append]
          simp
        clear hjs hX hT hJ hk0
        go_wp2
        go_loopw [6] (fun j wr => ∃ q : Nat, q ≤ X.size ∧ j = .int .i64 (q : Int) ∧ Hid ((32 : UInt8) ∉ x.take q) ∧ wr = w1) (fun j _ => X.size - (intOf j).toNat)
        case atStart => exact ⟨0, Nat.zero_le _, by go_num, Lib.hid (by simp), rfl⟩
        case round =>
          obtain ⟨q, hq, rfl, HNQ, hwr⟩ := hrel
          obtain rfl : w1 = wr := hwr.symm
          by_cases hlq : q < X.size
          · obtain ⟨cc, hcc⟩ : ∃ cc, X[q] = cc := ⟨_, rfl⟩
            have HXJ := Lib.hid (show X[q] ∈ x from HXM.out q hlq)
            have e32 := oct32' X[q]
            have hTK := Lib.hid (HXT.out q hlq)
            rw [hcc] at e32 hTK HXJ
            have hxx : ((X[q].toNat : Nat) : Int) = (cc.toNat : Int) := by rw [hcc]
            have zq : (q : Int) < (X.size : Int) := by omega
            clear hcc
            generalize (cc.toNat : Int) = ci at *
            by_cases hcq : cc = 32
            · have e33 : (ci == 32) = true := by rw [e32]; simpa using hcq
              clear e32
              exact absurd (by rw [← hcq]; exact HXJ.out) (HNB.out x (List.mem_of_getElem? HX.out))
            · have e33 : (ci == 32) = false := by rw [e32]; simpa using hcq
              have HNQ2 := Lib.hid (show (32 : UInt8) ∉ x.take (q + 1) by
                rw [hTK.out]
                simp only [List.mem_append, List.mem_singleton, not_or]
                exact ⟨HNQ.out, fun e => hcq e.symm⟩)
              clear e32 hcq
              go_wp2
              go_roundw
              case rel => exact ⟨q + 1, by omega, by go_num, HNQ2, by trivial⟩
              case measure => simp [intOf]; omega
          · have HNX := Lib.hid (show (32 : UInt8) ∉ x by
              have := HNQ.out
              rwa [List.take_of_length_le (by have := HXS.out; omega)] at this)
            have HNB2 := Lib.hid (show ∀ y ∈ ls.take (k + 1), (32 : UInt8) ∉ y by
              rw [take_snoc HX.out]
              intro y hy
              rcases List.mem_append.1 hy with h | h
              · exact HNBk.out y h
              · obtain rfl := List.mem_singleton.1 h; exact HNX.out)
            go_wp2
            go_roundw
            case rel => exact ⟨k + 1, by omega, by rw [HJ2.out], by go_num, HNB2, by trivial⟩
            case measure => simp [intOf]; omega
    · obtain rfl : k = n := by omega
      have hall : ls.take k = ls := List.take_of_length_le (by rw [HN.out]; omega)
      rw [hall]
      rw [HAL.out]
      clear hall
      have hlt1 := HA1.out.lt
      go_wp2_with fail
      refine ((HKN.out _).mono fun _ _ => gives_no).mono ?_
      rintro e2 w2 ⟨a4, c4, rfl, hb⟩
      have A2 := (HA1.out.up hb).alloc (.cells #[.int .i64 0, .int .i64 0, .slice a4 0 c4] 24)
      have X2 := Bx.new w2 24 [.int .i64 0, .int .i64 0, .slice a4 0 c4]
      have B2 := Lib.hid (up_alloc (up_trans B1.out hb) (.cells #[.int .i64 0, .int .i64 0, .slice a4 0 c4] 24))
      have hlt2 : w.heap.size < w2.heap.size := (HA1.out.up hb).lt
      obtain ⟨X7, hX7⟩ : ∃ X7, w2.heap.size = X7 := ⟨_, rfl⟩
      rw [hX7] at X2 hlt2
      clear hb
      go_wp2_with fail
      refine ((HKF.out _).mono fun _ _ => gives_no).mono ?_
      rintro e2 w3 ⟨a3, c3, rfl, hb⟩
      have A3 := A2.up hb
      have X3 := X2.up hb
      have B3' := Lib.hid (up_trans B2.out hb)
      have A4 := ((A3.far (p := ⟨X7, 0, none⟩) (by simp only; omega) (.int .i64 0)).far (p := ⟨X7, 1, none⟩) (by simp only; omega) (.int .i64 0)).far (p := ⟨X7, 2, none⟩) (by simp only; omega) (.slice a3 0 c3)
      have B4' := Lib.hid (up_set (up_set (up_set B3'.out (p := ⟨X7, 0, none⟩) (by simp only; omega) (.int .i64 0)) (p := ⟨X7, 1, none⟩) (by simp only; omega) (.int .i64 0)) (p := ⟨X7, 2, none⟩) (by simp only; omega) (.slice a3 0 c3))
      have y0 := X3.cell 0 rfl; have y1 := X3.cell 1 rfl; have y2 := X3.cell 2 rfl; have yf := X3.free
      clear hb A2 X2 A3 X3
      go_wp2_with fail
      refine (HKP.out _ _ _).mono ?_
      rintro e3 w4 ⟨rfl, hb⟩
      have A5 := A4.up hb
      have B3 := Lib.hid (up_trans B4'.out hb)
      have a0 := A5.cell 0 rfl; have a1 := A5.cell 1 rfl; have a2 := A5.cell 2 rfl; have af := A5.free
      clear hb A4 A5 y0 y1 y2 yf
      go_wp2
      rw [HF.out]
      refine bodyPost_ret (v := .tuple #[.agg #[.int .i64 0, .int .i64 0, .slice none 0 0], .bool false]) (by simp [results, Tryd.results23, go_sem, a0, a1, a2]) rfl (gives_none ?_)
      have B4 := B3.out
      repeat (first | (with_reducible exact B4) | (with_reducible refine up_set ?_ (by simp only; omega) _))

theorem refSchGet_any (a : Option Addr) (c : Nat) (ls : List (List UInt8)) (w : World) (h : TxA w a c ls) (hz : ∀ x ∈ ls, x.length ≤ 60) (hl : ls.length ≤ 20) :
    Calls Tryd.prog 23 #[.slice a ls.length c] w (GivesS (getM ls) w) := by
  rw [← refGet_eq]
  by_cases hb : ∃ q ∈ ls, (32 : UInt8) ∈ q
  · exact refGet_blank a c ls w h hz hl _ rfl hb
  · have hb' : ∀ q ∈ ls, (32 : UInt8) ∉ q := fun q hq h2 => hb ⟨q, hq, h2⟩
    have hjz := join_len ls hz
    have KF := fun w1 => refFind_any (joinM ls) w1
    have KP := fun w1 => refPlain_any (tx (joinM ls)) w1 (by rw [tx_size]; omega)
    rw [data_tx] at KP
    have hF := none_blank hb'
    unfold foundM at hF
    have hite : ∀ s : Sc, (if putM s = some (joinM ls) then some s else none) = if ((putM s).isSome && ((putT s).toList == (tx (joinM ls)).toList)) = true then some s else none := by
      intro s
      rw [put_eq]
      by_cases h2 : putM s = some (joinM ls)
      · rw [if_pos h2, if_pos (by simpa using h2)]
      · rw [if_neg h2, if_neg (by simpa using h2)]
    cases hf : findM (joinM ls) with
    | some s =>
      rw [hf] at hF KF
      exact refGet_found a c ls w h hz hl _ hb' s (putT s) _ _ rfl (by rw [hF]; exact hite s) KF (fun a3 c3 w1 hI => refSchPut_any s a3 c3 w1 hI)
    | none =>
      rw [hf] at hF KF
      cases hp : plainM (joinM ls) with
      | some s =>
        rw [hp] at KP
        exact refGet_told a c ls w h hz hl _ hb' s (putT s) _ _ rfl (by rw [hF, hp]; exact hite s) KF KP (fun a3 c3 w1 hI => refSchPut_any s a3 c3 w1 hI)
      | none =>
        rw [hp] at KP
        exact refGet_none a c ls w h hz hl _ hb' (putT zeroSc) _ (by rw [hF, hp]) KF KP (fun a3 c3 w1 => refSchPut_any zeroSc a3 c3 w1 (.inl rfl))
end Go.Proofs.YtaphkplidnepaaaDoor
