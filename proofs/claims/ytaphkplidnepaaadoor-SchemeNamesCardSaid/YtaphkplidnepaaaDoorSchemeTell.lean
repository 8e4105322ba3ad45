/- What scheme.tell answers: for every scheme. -/
import Derived.Test.YtaphkplidnepaaaDoorSchemeCode
import Derived.Test.YtaphkplidnepaaaDoorStepText
namespace Go.Proofs.YtaphkplidnepaaaDoor
open Go.RowKit DecMath
set_option linter.unusedVariables false

/-- A scheme's text by its parts; empty: it has none. -/
def tellT (s : Sc) : ByteArray := if toldB s = true then tx (headT s ++ tailT s.l) else ⟨#[]⟩

set_option maxHeartbeats 1000000 in
theorem schTell_bad (c r : Int) (a : Option Addr) (n cap : Nat) (u1 u2 u3 : Bool) (w : World) (e3 : decide ((6 : Int) < (n : Int)) = u3) (h : u1 = false ∨ u2 = false ∨ u3 = true)
    (K1 : ∀ w, Calls Tryd.prog 29 #[.int .i64 c] w fun e w' => e = .returned (.bool u1) ∧ w = w')
    (K2 : ∀ w, Calls Tryd.prog 29 #[.int .i64 r] w fun e w' => e = .returned (.bool u2) ∧ w = w') :
    Calls Tryd.prog 36 #[.agg #[.int .i64 c, .int .i64 r, .slice a n cap]] w fun e w' => e = .returned (.tuple #[.string ⟨#[]⟩, .bool false]) ∧ Below w.heap.size w w' := by
  have H1 := Lib.hid K1; have H2 := Lib.hid K2
  clear K1 K2
  cases u1
  · clear h e3
    go_enter Tryd.func36, Tryd.ntmps36
    go_wp2_with fail
    refine (H1.out _).mono ?_
    rintro e w1 ⟨rfl, rfl⟩
    go_wp2
    go_ret2
    exact ⟨rfl, up_alloc (Below.refl _ _) _⟩
  cases u2
  · clear h e3
    go_enter Tryd.func36, Tryd.ntmps36
    go_wp2_with (first
      | (go_at_call 29; with_reducible refine (H1.out _).mono ?_; rintro e w' ⟨rfl, rfl⟩)
      | (go_at_call 29; with_reducible refine (H2.out _).mono ?_; rintro e w' ⟨rfl, rfl⟩))
    go_ret2
    exact ⟨rfl, up_alloc (Below.refl _ _) _⟩
  · obtain rfl : u3 = true := by simpa using h
    clear h
    go_enter Tryd.func36, Tryd.ntmps36
    go_wp2_with (first
      | (go_at_call 29; with_reducible refine (H1.out _).mono ?_; rintro e w' ⟨rfl, rfl⟩)
      | (go_at_call 29; with_reducible refine (H2.out _).mono ?_; rintro e w' ⟨rfl, rfl⟩))
    go_ret2
    exact ⟨rfl, up_alloc (Below.refl _ _) _⟩

def TellRel (H : List UInt8) (l : List Sp) (n : Nat) (w : World) (t i : Value) (wr : World) : Prop :=
  ∃ k : Nat, k ≤ n ∧ t = .string (tx (H ++ tailT (l.take k))) ∧ i = .int .i64 (k : Int) ∧ Hid (∀ p ∈ l.take k, rightB p.d p.n = true) ∧ ∃ u : Later w, wr = u.now
theorem take_snoc {α : Type} {l : List α} {k : Nat} {p : α} (h : l[k]? = some p) : l.take (k + 1) = l.take k ++ [p] := by
  obtain ⟨hlt, rfl⟩ := List.getElem?_eq_some_iff.1 h
  exact List.take_succ_eq_append_getElem hlt
theorem tail_snoc (l : List Sp) (p : Sp) : tailT (l ++ [p]) = tailT l ++ 32 :: textS p := by simp [tailT]
theorem tail_len (l : List Sp) (h : ∀ p ∈ l, rightB p.d p.n = true) : (tailT l).length ≤ 23 * l.length := by
  induction l with
  | nil => simp [tailT]
  | cons p l ih =>
    obtain ⟨⟨d0, d1⟩, n0, n1⟩ := rightB_true (h p (by simp))
    have := textS_len p (by omega) n1
    have := ih fun q hq => h q (by simp [hq])
    unfold tailT at this ⊢
    rw [List.flatMap_cons]
    simp only [List.length_append, List.length_cons]
    omega

set_option maxRecDepth 100000 in
set_option maxHeartbeats 2000000 in
theorem schTell_good (c r : Int) (a : Option Addr) (l : List Sp) (n cap : Nat) (w : World) (H P q R1 : ByteArray) (F : ByteArray × Bool) (hn : l.length = n) (hn6 : n ≤ 6)
    (hR1 : P ++ ⟨#[120]⟩ = R1) (hR2 : R1 ++ q = H) (p1 : P.size ≤ 20) (q1 : q.size ≤ 20) (r1 : R1.size ≤ 21) (L : List UInt8) (hL : H = tx L) (hH : L.length ≤ 41)
    (hF : F = if (l.all fun p => rightB p.d p.n) = true then (tx (L ++ tailT l), true) else (⟨#[]⟩, false)) (hg : Tab w) (hI : InL w a l)
    (K1 : ∀ w, Calls Tryd.prog 29 #[.int .i64 c] w fun e w' => e = .returned (.bool true) ∧ w = w')
    (K2 : ∀ w, Calls Tryd.prog 29 #[.int .i64 r] w fun e w' => e = .returned (.bool true) ∧ w = w')
    (D1 : ∀ w, Tab w → Calls Tryd.prog 50 #[.int .i64 c] w fun e w' => e = .returned (.string P) ∧ Below w.heap.size w w')
    (D2 : ∀ w, Tab w → Calls Tryd.prog 50 #[.int .i64 r] w fun e w' => e = .returned (.string q) ∧ Below w.heap.size w w') :
    Calls Tryd.prog 36 #[.agg #[.int .i64 c, .int .i64 r, .slice a n cap]] w fun e w' => e = .returned (.tuple #[.string F.1, .bool F.2]) ∧ Below w.heap.size w w' := by
  have z6 : decide ((6 : Int) < (n : Int)) = false := by simp; omega
  have H1 := Lib.hid K1; have H2 := Lib.hid K2; have HD1 := Lib.hid D1; have HD2 := Lib.hid D2; have HN := Lib.hid hn; have HF := Lib.hid hF; have HI := Lib.hid hI; have G := Lib.hid hg; have HL := Lib.hid hL
  clear K1 K2 D1 D2 hn hF hI hg hL
  have hHz : H.size ≤ 41 := by rw [HL.out, tx_size]; exact hH
  go_enter Tryd.func36, Tryd.ntmps36
  have A := Bx.new w 24 [.int .i64 c, .int .i64 r, .slice a n cap]
  have B0 := Lib.hid (up_alloc (Below.refl _ w) (.cells #[.int .i64 c, .int .i64 r, .slice a n cap] 24))
  go_wp2_with (first
    | (go_at_call 29; with_reducible refine (H1.out _).mono ?_; rintro e w' ⟨rfl, rfl⟩)
    | (go_at_call 29; with_reducible refine (H2.out _).mono ?_; rintro e w' ⟨rfl, rfl⟩))
  have k0 := A.cell 0 rfl; have k1 := A.cell 1 rfl; have k2 := A.cell 2 rfl
  have G0 := Lib.hid (G.out.below B0.out)
  have HI0 := Lib.hid (HI.out.up B0.out)
  clear A
  generalize hw0 : (w.alloc (.cells #[.int .i64 c, .int .i64 r, .slice a n cap] 24)) = w0 at *
  clear hw0
  refine later_start (w := w0) ?_
  intro u
  have j0 := fun u : Later w0 => u.cell k0
  have j1 := fun u : Later w0 => u.cell k1
  have j2 := fun u : Later w0 => u.cell k2
  clear k0 k1 k2
  refine wp_region_later (by kernel_rfl) (by kernel_rfl) ?_
  repeat (go_big_quiet_step ((first
    | (go_at_call 50; with_reducible exact Later.call (HD1.out _ (G0.out.below (Later.up _))))
    | (go_at_call 50; with_reducible exact Later.call (HD2.out _ (G0.out.below (Later.up _)))))))
  refine wpQuiet_nil ?_
  rintro _ ⟨u1, rfl⟩
  have x2 := j2 u1
  clear j0 j1 j2
  go_wp2
  go_loopw [4, 36] (fun t i wr => TellRel L l n w0 t i wr) (fun _ i _ => n - (intOf i).toNat)
  case atStart => exact ⟨0, by omega, by rw [HL.out]; simp [tailT], by go_num, Lib.hid (by simp), u1, rfl⟩
  case round =>
    obtain ⟨k, hk, rfl, rfl, HA, u, rfl⟩ := hrel
    by_cases hlt : k < n
    · obtain ⟨p, hp⟩ : ∃ p, l[k]? = some p := ⟨l[k]'(by rw [HN.out]; exact hlt), List.getElem?_eq_getElem _⟩
      obtain ⟨b, off, rfl, hc⟩ := HI0.out.resolve_left (by rintro rfl; cases hp)
      obtain ⟨d0, d1, d2⟩ := (hc.up u.up) k p hp
      have HT := Lib.hid (take_snoc hp)
      have hmem : p ∈ l := List.mem_of_getElem? hp
      have KP := stepPut_any p
      have z0 : (0 : Int) ≤ (k : Int) := by omega
      have z1 : (k : Int) < (n : Int) := by omega
      cases hr : rightB p.d p.n
      · have E := Lib.hid (show F = (⟨#[]⟩, false) by
          rw [HF.out, if_neg]
          intro h
          rw [List.all_eq_true] at h
          rw [h p hmem] at hr
          cases hr)
        rw [hr] at KP
        simp only [Bool.false_eq_true, if_false] at KP
        obtain ⟨pd, pn, pu⟩ := p
        simp only at d0 d1 d2 KP
        have HP := Lib.hid KP
        clear KP hc hp hr hmem
        go_wp2_with fail
        refine (HP.out _ ((G0.out.below u.up).below (up_alloc (Below.refl _ _) _))).mono ?_
        rintro e w2 ⟨rfl, hb2⟩
        have B2 := Lib.hid (up_trans (up_alloc u.up (.cells #[.int .i64 pd, .int .i64 pn, .bool pu] 48)) hb2)
        clear hb2
        go_wp2
        go_ret2
        exact ⟨by rw [E.out]; rfl, up_trans B0.out B2.out⟩
      · have HA2 := Lib.hid (show ∀ q ∈ l.take (k + 1), rightB q.d q.n = true by
          rw [HT.out]
          intro q hq
          rcases List.mem_append.1 hq with h | h
          · exact HA.out q h
          · obtain rfl := List.mem_singleton.1 h; exact hr)
        rw [hr] at KP
        simp only [if_true] at KP
        have hz := textS_len p (by have := rightB_true hr; omega) (by have := rightB_true hr; omega)
        have htl := tail_len (l.take k) HA.out
        rw [List.length_take, HN.out] at htl
        have hts : (tx (L ++ tailT (l.take k))).size ≤ 200 := by rw [tx_size, List.length_append]; omega
        have hps : (tx (textS p)).size ≤ 22 := by rw [tx_size]; exact hz.1
        have hq1 : (⟨#[32]⟩ : ByteArray) ++ tx (textS p) = tx (32 :: textS p) := by
          have : (⟨#[32]⟩ : ByteArray) = tx [32] := rfl
          rw [this, tx_append]; rfl
        have hqs : (tx (32 :: textS p)).size ≤ 23 := by rw [tx_size]; simp; exact hz.1
        have hq2 : tx (L ++ tailT (l.take k)) ++ tx (32 :: textS p) = tx (L ++ tailT (l.take (k + 1))) := by rw [tx_append, HT.out, tail_snoc, List.append_assoc]
        have HR := Lib.hid (rfl : tx (L ++ tailT (l.take (k + 1))) = tx (L ++ tailT (l.take (k + 1))))
        obtain ⟨R, hR⟩ : ∃ R, tx (L ++ tailT (l.take (k + 1))) = R := ⟨_, rfl⟩
        rw [hR] at hq2
        have HRR := Lib.hid hR
        clear hR HR
        generalize tx (L ++ tailT (l.take k)) = T at *
        generalize tx (32 :: textS p) = Q at *
        generalize tx (textS p) = S at *
        obtain ⟨pd, pn, pu⟩ := p
        simp only at d0 d1 d2 KP
        have HP := Lib.hid KP
        clear KP hc hp hr hmem htl hz
        go_wp2_with fail
        refine (HP.out _ ((G0.out.below u.up).below (up_alloc (Below.refl _ _) _))).mono ?_
        rintro e w2 ⟨rfl, hb2⟩
        have B2 := Lib.hid (up_trans (up_alloc u.up (.cells #[.int .i64 pd, .int .i64 pn, .bool pu] 48)) hb2)
        clear hb2
        go_wp2
        go_roundw
        case rel => exact ⟨k + 1, by omega, by rw [HRR.out], by go_num, HA2, ⟨_, B2.out⟩, rfl⟩
        case measure => simp [intOf]; omega
    · obtain rfl : k = n := by omega
      have hall : l.take k = l := List.take_of_length_le (by rw [HN.out]; omega)
      have E := Lib.hid (show F = (tx (L ++ tailT (l.take k)), true) by
        rw [HF.out, if_pos, hall]
        rw [List.all_eq_true]
        rw [hall] at HA
        exact HA.out)
      generalize tx (L ++ tailT (l.take k)) = T at *
      clear hall
      go_wp2
      go_ret2
      exact ⟨by rw [E.out]; rfl, up_trans B0.out u.up⟩

theorem itoa_size (n : Int) (n0 : -9223372036854775808 ≤ n) (n1 : n ≤ 9223372036854775807) : (tx (Lib.itoa n)).size ≤ 20 := by rw [tx_size]; exact (itoa_len n n0 n1).2
theorem schTell_any (s : Sc) (a : Option Addr) (cap : Nat) (w : World) (h : InL w a s.l) (hg : Tab w) :
    Calls Tryd.prog 36 #[.agg #[.int .i64 s.c, .int .i64 s.r, .slice a s.l.length cap]] w fun e w' => e = .returned (.tuple #[.string (tellT s), .bool (toldB s)]) ∧ Below w.heap.size w w' := by
  have K1 := fun w => schIsSide_any s.c w
  have K2 := fun w => schIsSide_any s.r w
  by_cases hb : sideB s.c = true ∧ sideB s.r = true ∧ s.l.length ≤ 6
  · obtain ⟨h1, h2, h6⟩ := hb
    have c1 := sideB_true h1
    have r1 := sideB_true h2
    rw [h1] at K1
    rw [h2] at K2
    have hx : (⟨#[120]⟩ : ByteArray) = tx [120] := rfl
    refine (schTell_good s.c s.r a s.l _ cap w (tx (headT s)) (tx (Lib.itoa s.c)) (tx (Lib.itoa s.r)) (tx (Lib.itoa s.c ++ [120])) (tellT s, toldB s) rfl h6 (by rw [hx, tx_append]) (by rw [tx_append]; simp [headT]) (itoa_size _ (by omega) (by omega)) (itoa_size _ (by omega) (by omega)) ?_ (headT s) rfl ?_ ?_ hg h K1 K2 (fun w hw => decPut_any s.c w (by omega) (by omega) hw) (fun w hw => decPut_any s.r w (by omega) (by omega) hw)).mono ?_
    · have := itoa_len s.c (by omega) (by omega)
      rw [tx_size, List.length_append, List.length_singleton]
      omega
    · have := itoa_len s.c (by omega) (by omega)
      have := itoa_len s.r (by omega) (by omega)
      unfold headT
      simp only [List.length_append, List.length_cons]
      omega
    · unfold tellT toldB
      rw [h1, h2]
      simp only [Bool.and_self, Bool.true_and, decide_eq_true h6]
      split
      · rename_i e; rw [e]
      · rename_i e; simp [e]
    · rintro e w' ⟨rfl, hb⟩
      exact ⟨rfl, hb⟩
  · have ht : toldB s = false := by
      rw [← Bool.not_eq_true]
      intro h2
      unfold toldB at h2
      simp only [Bool.and_eq_true, decide_eq_true_eq] at h2
      exact hb ⟨h2.1.1, h2.1.2, h2.2.1⟩
    unfold tellT
    rw [ht]
    refine schTell_bad s.c s.r a _ cap _ _ _ w rfl ?_ K1 K2
    by_cases h1 : sideB s.c = true
    · by_cases h2 : sideB s.r = true
      · right; right
        have : ¬ s.l.length ≤ 6 := fun h6 => hb ⟨h1, h2, h6⟩
        simp; omega
      · right; left; simpa using h2
    · left; simpa using h1
end Go.Proofs.YtaphkplidnepaaaDoor
