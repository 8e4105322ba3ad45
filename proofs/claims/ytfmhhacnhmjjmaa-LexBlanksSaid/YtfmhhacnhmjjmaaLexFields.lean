/- What lex's take and Fields answer. -/
import Derived.Test.YtfmhhacnhmjjmaaLexSmall
import Derived.Test.YtfmhhacnhmjjmaaBoxes
namespace Go.Proofs.Ytfmhhacnhmjjmaa
open Go.RowKit
set_option linter.unusedVariables false

theorem Bx.kept {w w' : World} {B : Nat} {vs : List Value} (h : Bx w B vs) (hb : w'.heap[B]? = w.heap[B]?) : Bx w' B vs :=
  ⟨fun j v hj => (World.cell?_of_block (a := ⟨B, j, none⟩) hb).trans (h.1 j v hj), fun j => by
    have := h.2 j
    unfold World.frozen? at this ⊢
    rw [hb]
    exact this⟩
/-- But for the block B, all is as it was. -/
def Only (B : Nat) (w w' : World) : Prop := Below B w w' ∧ w'.heap.size = w.heap.size ∧ ∀ k, k ≠ B → w'.heap[k]? = w.heap[k]?
theorem only_refl (B : Nat) (w : World) : Only B w w := ⟨Below.refl _ _, rfl, fun _ _ => rfl⟩
theorem only_set (B o : Nat) (w : World) (v : Value) : Only B w (w.setCell ⟨B, o, none⟩ v) := ⟨(Below.refl B w).setCell (p := ⟨B, o, none⟩) (Nat.le_refl _) v, by simp [World.setCell], fun k hk => Below.heap_setCell _ _ _ _ hk⟩

/-- What take makes of the two truths. -/
def TookQ (B : Nat) (wi fr : Bool) (w : World) (e : Ending) (w' : World) : Prop := e = .returned (.tuple #[]) ∧ Bx w' B [.bool wi, .bool fr] ∧ Only B w w'
theorem take_core {w : World} {B : Nat} {wi fr b92 b34 : Bool} {x : Int} (h : Bx w B [.bool wi, .bool fr]) (hw : wi = false → fr = false) (e1 : (x == 92) = b92) (e2 : (x == 34) = b34) (hn : ¬ (b92 = true ∧ b34 = true)) :
    Calls Try.prog 20 #[.pointer (some ⟨B, 0, none⟩), .int .u8 x] w (TookQ B (if wi then fr || !b34 else b34) (if wi then !fr && b92 else false) w) := by
  have c0 := h.cell 0 rfl
  have c1 := h.cell 1 rfl
  have f0 := h.free 0
  have f1 := h.free 1
  have HB := Lib.hid h
  clear h
  cases wi
  · obtain rfl := hw rfl
    clear hw
    cases b92 <;> cases b34
    · go_enter Try.func20, Try.ntmps20
      go_wp2
      refine bodyPost_ret (v := .tuple #[]) (by simp [results, Try.results20, go_sem]) rfl ?_
      exact ⟨rfl, HB.out, only_refl _ _⟩
    · go_enter Try.func20, Try.ntmps20
      go_wp2
      refine bodyPost_ret (v := .tuple #[]) (by simp [results, Try.results20, go_sem]) rfl ?_
      exact ⟨rfl, HB.out.set 0 _, only_set _ _ _ _⟩
    · go_enter Try.func20, Try.ntmps20
      go_wp2
      refine bodyPost_ret (v := .tuple #[]) (by simp [results, Try.results20, go_sem]) rfl ?_
      exact ⟨rfl, HB.out, only_refl _ _⟩
    · exact absurd ⟨rfl, rfl⟩ hn
  · clear hw
    cases fr
    · cases b92 <;> cases b34
      · go_enter Try.func20, Try.ntmps20
        go_wp2
        refine bodyPost_ret (v := .tuple #[]) (by simp [results, Try.results20, go_sem]) rfl ?_
        exact ⟨rfl, HB.out, only_refl _ _⟩
      · go_enter Try.func20, Try.ntmps20
        go_wp2
        refine bodyPost_ret (v := .tuple #[]) (by simp [results, Try.results20, go_sem]) rfl ?_
        exact ⟨rfl, HB.out.set 0 _, only_set _ _ _ _⟩
      · go_enter Try.func20, Try.ntmps20
        go_wp2
        refine bodyPost_ret (v := .tuple #[]) (by simp [results, Try.results20, go_sem]) rfl ?_
        exact ⟨rfl, HB.out.set 1 _, only_set _ _ _ _⟩
      · exact absurd ⟨rfl, rfl⟩ hn
    · clear e1 e2
      go_enter Try.func20, Try.ntmps20
      go_wp2
      refine bodyPost_ret (v := .tuple #[]) (by simp [results, Try.results20, go_sem]) rfl ?_
      exact ⟨rfl, HB.out.set 1 _, only_set _ _ _ _⟩
theorem oct92 (c : UInt8) : ((c.toNat : Int) == 92) = (c == 92) := oct_eq c 92
theorem oct34 (c : UInt8) : ((c.toNat : Int) == 34) = (c == 34) := oct_eq c 34
theorem oct35 (c : UInt8) : ((c.toNat : Int) == 35) = (c == 35) := oct_eq c 35
theorem oct_apart (c : UInt8) : ¬ ((c == 92) = true ∧ (c == 34) = true) := by
  rintro ⟨h1, h2⟩
  simp at h1 h2
  rw [h1] at h2
  exact absurd h2 (by decide)
theorem take_in {w : World} {B : Nat} {fr : Bool} (c : UInt8) (h : Bx w B [.bool true, .bool fr]) :
    Calls Try.prog 20 #[.pointer (some ⟨B, 0, none⟩), .int .u8 (c.toNat : Int)] w (TookQ B (fr || c != 34) (!fr && c == 92) w) :=
  take_core h (fun h => by cases h) (oct92 c) (oct34 c) (oct_apart c)
theorem take_out {w : World} {B : Nat} (c : UInt8) (h : Bx w B [.bool false, .bool false]) :
    Calls Try.prog 20 #[.pointer (some ⟨B, 0, none⟩), .int .u8 (c.toNat : Int)] w (TookQ B (c == 34) false w) :=
  take_core h (fun _ => rfl) (oct92 c) (oct34 c) (oct_apart c)

/-- What a call answers that tells fields apart. -/
def GivesF (F : Option (List (List UInt8))) (w : World) (e : Ending) (w' : World) : Prop := ∃ v, e = .returned (.tuple #[v, .bool F.isSome]) ∧ TxS w' v (F.getD []) ∧ Below w.heap.size w w'

def FieldsRel (s : ByteArray) (w : World) (F : Option (List (List UInt8))) (l f n i : Value) (wr : World) : Prop :=
  n = .int .i64 (s.size : Int) ∧ ∃ (k from_ : Nat) (out : List (List UInt8)) (wi fr : Bool), k ≤ s.size ∧ from_ ≤ k ∧ out.length ≤ k ∧ i = .int .i64 (k : Int) ∧ f = .int .i64 (from_ : Int) ∧ rowT wr (w.heap.size + 1) l out ∧ Bx wr w.heap.size [.bool wi, .bool fr] ∧ Below w.heap.size w wr ∧ w.heap.size + 1 ≤ wr.heap.size ∧
    (wi = false → fr = false) ∧ fieldsM (s.data.toList.drop k) out ((s.data.toList.take k).drop from_) wi fr = F

theorem ret_fields {v : Value} {F G : Option (List (List UInt8))} {b : Bool} (h : F = G) (hb : F.isSome = b) : Ending.returned (.tuple #[v, .bool b]) = .returned (.tuple #[v, .bool G.isSome]) := by rw [← h, hb]

set_option maxHeartbeats 2000000 in
theorem lexFields_any (s : ByteArray) (w : World) (hs : s.size ≤ 999999) :
    Calls Try.prog 9 #[.string s] w (GivesF (fieldsL s.data.toList) w) := by
  obtain ⟨F, hF0⟩ : ∃ F, fieldsL s.data.toList = F := ⟨_, rfl⟩
  have HF0 := Lib.hid hF0
  rw [hF0]
  clear hF0
  have hn : ((s.size : Nat) : Int) ≤ 999999 := by omega
  go_enter Try.func9, Try.ntmps9
  go_wp2
  go_loopw [4, 6, 7, 14] (fun l f n i wr => FieldsRel s w F l f n i wr) (fun _ _ _ i _ => s.size - (intOf i).toNat)
  case atStart =>
    refine ⟨rfl, 0, 0, [], false, false, Nat.zero_le _, Nat.le_refl _, Nat.le_refl _, rfl, rfl, rowT_nil _ _, Bx.new w _ [.bool false, .bool false], (Below.refl _ _).alloc (Nat.le_refl _) _, by simp, fun _ => rfl, ?_⟩
    rw [← HF0.out]
    rfl
  case round =>
    obtain ⟨rfl, k, f, out, wi, fr, hk, hf, ho, rfl, rfl, hrow, hbx, hb, hsz, hwf, hF⟩ := hrel
    have HR := Lib.hid hrow; have HB := Lib.hid hb; have HF := Lib.hid hF; have HX := Lib.hid hbx; have HW := Lib.hid hwf
    clear hrow hb hF hbx hwf
    have hcl : ((s.data.toList.take k).drop f).length ≤ 1000000000 := by rw [List.length_drop, List.length_take, size_data]; omega
    have c0 := HX.out.cell 0 rfl
    by_cases hlt : k < s.size
    · have z1 : (k : Int) < (s.size : Int) := by omega
      have DO := Lib.hid (drop_octet hlt)
      have CO := Lib.hid (cur_octet hf hlt)
      obtain ⟨c, hc⟩ : ∃ c, s[k] = c := ⟨_, rfl⟩
      rw [hc] at DO CO
      have hx : ((s[k].toNat : Nat) : Int) = (c.toNat : Int) := by rw [hc]
      clear hc
      have KB := fun w => lexBlank_any c w
      have KP := fun w => lexPrinted_any c w
      have KI := fun fr h => take_in (w := wr) (B := w.heap.size) (fr := fr) c h
      have KO := fun h => take_out (w := wr) (B := w.heap.size) c h
      have e35 := oct35 c
      generalize (c.toNat : Int) = x at *
      cases wi
      · obtain rfl := HW.out rfl
        by_cases h35 : c = 35
        · subst h35
          have e1 : (x == 35) = true := by rw [e35]; rfl
          have HH := Lib.hid HF.out
          rw [DO.out, f_stop] at HH
          obtain ⟨p, hp⟩ : ∃ p, s.extract f k = p := ⟨_, rfl⟩
          have HP := Lib.hid ((hp.symm).trans (tx_extract s f k))
          have KA := lexAdd_any HR.out hsz ((s.data.toList.take k).drop f) hcl (by omega)
          rw [← HP.out] at KA
          have HKA := Lib.hid KA
          clear KA KB KP KI KO e35
          go_wp2_with fail
          refine HKA.out.mono ?_
          rintro e w1 ⟨v, rfl, hv, hb1⟩
          have HV := Lib.hid hv; have HB1 := Lib.hid hb1
          clear hv hb1
          go_wp2
          go_ret2
          refine ⟨v, ret_fields HH.out rfl, ?_, HB.out.trans (HB1.out.mono (by omega))⟩
          rw [← HH.out]
          exact HV.out.texts
        · have e1 : (x == 35) = false := by rw [e35]; simpa using h35
          cases hbl : blankB c
          · rw [hbl] at KB
            have HKB := Lib.hid KB
            cases hse : seenB c
            · rw [hse] at KP
              have HKP := Lib.hid KP
              have HH := Lib.hid HF.out
              rw [DO.out, f_out_bad _ _ _ _ hbl h35 hse] at HH
              clear KB KP KI KO e35 hbl hse
              go_wp2_with (first
                | (go_at_call 17; refine (HKB.out _).mono ?_; rintro e w' ⟨rfl, rfl⟩)
                | (go_at_call 19; refine (HKP.out _).mono ?_; rintro e w' ⟨rfl, rfl⟩))
              go_ret2
              refine ⟨_, ret_fields HH.out rfl, ?_, HB.out⟩
              rw [← HH.out]
              exact TxS.nil _
            · rw [hse] at KP
              have HKP := Lib.hid KP
              have HH := Lib.hid HF.out
              rw [DO.out, f_out _ _ _ _ hbl h35 hse] at HH
              have HKT := Lib.hid (KO HX.out)
              clear KB KP KI KO e35 hbl hse
              go_wp2_with (first
                | (go_at_call 17; refine (HKB.out _).mono ?_; rintro e w' ⟨rfl, rfl⟩)
                | (go_at_call 19; refine (HKP.out _).mono ?_; rintro e w' ⟨rfl, rfl⟩)
                | (go_at_call 20; refine HKT.out.mono ?_; rintro e w1 ⟨rfl, hx1, hy1⟩; have HX1 := Lib.hid hx1; have HY1 := Lib.hid hy1; clear hx1 hy1))
              go_roundw
              case rel =>
                refine ⟨rfl, k + 1, f, out, _, _, by omega, by omega, by omega, by go_num, rfl, HR.out.kept (fun j hj _ => HY1.out.2.2 j (by omega)), HX1.out, HB.out.trans HY1.out.1, by rw [HY1.out.2.1]; exact hsz, fun _ => rfl, ?_⟩
                rw [CO.out]
                exact HH.out
              case measure => simp [intOf]; omega
          · rw [hbl] at KB
            have HKB := Lib.hid KB
            have HH := Lib.hid HF.out
            rw [DO.out, f_blank _ _ _ _ hbl] at HH
            obtain ⟨p, hp⟩ : ∃ p, s.extract f k = p := ⟨_, rfl⟩
            have HP := Lib.hid ((hp.symm).trans (tx_extract s f k))
            have KA := lexAdd_any HR.out hsz ((s.data.toList.take k).drop f) hcl (by omega)
            rw [← HP.out] at KA
            have HKA := Lib.hid KA
            clear KA KB KP KI KO e35 hbl
            go_wp2_with (first
              | (go_at_call 17; refine (HKB.out _).mono ?_; rintro e w' ⟨rfl, rfl⟩)
              | (go_at_call 18; refine HKA.out.mono ?_; rintro e w1 ⟨v, rfl, hv, hb1⟩; have HV := Lib.hid hv; have HB1 := Lib.hid hb1; clear hv hb1))
            go_roundw
            case rel =>
              refine ⟨rfl, k + 1, k + 1, _, _, _, by omega, by omega, ?_, by go_num, by go_num, HV.out, HX.out.kept (HB1.out.block _ (by omega)), HB.out.trans (HB1.out.mono (by omega)), Nat.le_trans hsz HB1.out.size, fun _ => rfl, ?_⟩
              · have := addF_length out ((s.data.toList.take k).drop f); omega
              · rw [cur_none]; exact HH.out
            case measure => simp [intOf]; omega
      · cases hse : seenB c
        · rw [hse] at KP
          have HKP := Lib.hid KP
          have HH := Lib.hid HF.out
          rw [DO.out, f_in_bad _ _ _ _ hse] at HH
          clear KB KP KI KO e35 hse
          go_wp2_with (first
            | (go_at_call 19; refine (HKP.out _).mono ?_; rintro e w' ⟨rfl, rfl⟩))
          go_ret2
          refine ⟨_, ret_fields HH.out rfl, ?_, HB.out⟩
          rw [← HH.out]
          exact TxS.nil _
        · rw [hse] at KP
          have HKP := Lib.hid KP
          have HH := Lib.hid HF.out
          rw [DO.out, f_in _ _ _ _ hse] at HH
          have HKT := Lib.hid (KI fr HX.out)
          clear KB KP KI KO e35 hse
          go_wp2_with (first
            | (go_at_call 19; refine (HKP.out _).mono ?_; rintro e w' ⟨rfl, rfl⟩)
            | (go_at_call 20; refine HKT.out.mono ?_; rintro e w1 ⟨rfl, hx1, hy1⟩; have HX1 := Lib.hid hx1; have HY1 := Lib.hid hy1; clear hx1 hy1))
          go_roundw
          case rel =>
            refine ⟨rfl, k + 1, f, out, _, _, by omega, by omega, by omega, by go_num, rfl, HR.out.kept (fun j hj _ => HY1.out.2.2 j (by omega)), HX1.out, HB.out.trans HY1.out.1, by rw [HY1.out.2.1]; exact hsz, ?_, ?_⟩
            · intro e
              simp only [Bool.or_eq_false_iff, bne_eq_false_iff_eq] at e
              rw [e.2]
              simp
            · rw [CO.out]
              exact HH.out
          case measure => simp [intOf]; omega
    · obtain rfl : k = s.size := by omega
      have HH := Lib.hid HF.out
      rw [List.drop_of_length_le (by rw [size_data]; exact Nat.le_refl _)] at HH
      cases wi
      · rw [f_end] at HH
        obtain ⟨p, hp⟩ : ∃ p, s.extract f s.size = p := ⟨_, rfl⟩
        have HP := Lib.hid ((hp.symm).trans (tx_extract s f s.size))
        have KA := lexAdd_any HR.out hsz ((s.data.toList.take s.size).drop f) hcl (by omega)
        rw [← HP.out] at KA
        have HKA := Lib.hid KA
        clear KA
        go_wp2_with fail
        refine HKA.out.mono ?_
        rintro e w1 ⟨v, rfl, hv, hb1⟩
        have HV := Lib.hid hv; have HB1 := Lib.hid hb1
        clear hv hb1
        go_wp2
        go_ret2
        refine ⟨v, ret_fields HH.out rfl, ?_, HB.out.trans (HB1.out.mono (by omega))⟩
        rw [← HH.out]
        exact HV.out.texts
      · rw [f_open] at HH
        go_wp2
        go_ret2
        refine ⟨_, ret_fields HH.out rfl, ?_, HB.out⟩
        rw [← HH.out]
        exact TxS.nil _
end Go.Proofs.Ytfmhhacnhmjjmaa
