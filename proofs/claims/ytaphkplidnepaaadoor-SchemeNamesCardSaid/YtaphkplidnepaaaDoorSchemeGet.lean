/- What scheme.Put and scheme.Get answer: for every scheme and every list of texts. -/
import Derived.Test.YtaphkplidnepaaaDoorSchemeNames
namespace Go.Proofs.YtaphkplidnepaaaDoor
open Go.RowKit
set_option linter.unusedVariables false

/-- A scheme's text; empty: it has none. -/
def putT (s : Sc) : ByteArray := match putM s with
  | some t => tx t
  | none => ⟨#[]⟩

theorem schPut_named (c r : Int) (a : Option Addr) (n cap : Nat) (T : ByteArray) (w : World)
    (KN : ∀ w1, Below w.heap.size w w1 → Calls Tryd.prog 19 #[.agg #[.int .i64 c, .int .i64 r, .slice a n cap]] w1 fun e w' => e = .returned (.tuple #[.string T, .bool true]) ∧ Below w1.heap.size w1 w') :
    Calls Tryd.prog 20 #[.agg #[.int .i64 c, .int .i64 r, .slice a n cap]] w fun e w' => e = .returned (.tuple #[.string T, .bool true]) ∧ Below w.heap.size w w' := by
  have HN := Lib.hid KN
  clear KN
  go_enter Tryd.func20, Tryd.ntmps20
  go_wp2_with fail
  refine (HN.out _ (up_alloc (Below.refl _ _) _)).mono ?_
  rintro e w1 ⟨rfl, hb⟩
  have B1 := Lib.hid (up_trans (up_alloc (Below.refl _ w) _) hb)
  clear hb
  go_wp2
  go_ret2
  exact ⟨rfl, B1.out⟩
theorem schPut_told (c r : Int) (a : Option Addr) (n cap : Nat) (S T : ByteArray) (b : Bool) (w : World)
    (KN : ∀ w1, Below w.heap.size w w1 → Calls Tryd.prog 19 #[.agg #[.int .i64 c, .int .i64 r, .slice a n cap]] w1 fun e w' => e = .returned (.tuple #[.string S, .bool false]) ∧ Below w1.heap.size w1 w')
    (KT : ∀ w1, Below w.heap.size w w1 → Calls Tryd.prog 36 #[.agg #[.int .i64 c, .int .i64 r, .slice a n cap]] w1 fun e w' => e = .returned (.tuple #[.string T, .bool b]) ∧ Below w1.heap.size w1 w') :
    Calls Tryd.prog 20 #[.agg #[.int .i64 c, .int .i64 r, .slice a n cap]] w fun e w' => e = .returned (.tuple #[.string T, .bool b]) ∧ Below w.heap.size w w' := by
  have HN := Lib.hid KN; have HT := Lib.hid KT
  clear KN KT
  go_enter Tryd.func20, Tryd.ntmps20
  go_wp2_with fail
  refine (HN.out _ (up_alloc (Below.refl _ _) _)).mono ?_
  rintro e w1 ⟨rfl, hb⟩
  have A1 := (Bx.new w 24 [.int .i64 c, .int .i64 r, .slice a n cap]).up hb
  have B1 := Lib.hid (up_trans (up_alloc (Below.refl _ w) _) hb)
  have a0 := A1.cell 0 rfl; have a1 := A1.cell 1 rfl; have a2 := A1.cell 2 rfl
  clear hb A1
  go_wp2_with fail
  refine (HT.out _ B1.out).mono ?_
  rintro e w2 ⟨rfl, hb⟩
  have B2 := Lib.hid (up_trans B1.out hb)
  clear hb
  go_wp2
  go_ret2
  exact ⟨rfl, B2.out⟩
theorem schPut_any (s : Sc) (a : Option Addr) (cap : Nat) (w : World) (h : InL w a s.l) (hg : GoodM w) :
    Calls Tryd.prog 20 #[.agg #[.int .i64 s.c, .int .i64 s.r, .slice a s.l.length cap]] w fun e w' => e = .returned (.tuple #[.string (putT s), .bool (putM s).isSome]) ∧ Below w.heap.size w w' := by
  have KN := fun w1 (hb : Below w.heap.size w w1) => schName_any s a cap w1 (h.up hb) (hg.below hb)
  have KT := fun w1 (hb : Below w.heap.size w w1) => schTell_any s a cap w1 (h.up hb) (hg.below hb).1.1
  unfold putT putM
  unfold nameT at KN
  cases hn : nameM s with
  | some n =>
    rw [hn] at KN
    exact schPut_named s.c s.r a _ cap (tx n) w KN
  | none =>
    rw [hn] at KN
    have hT : (match tellM s with | some t => tx t | none => ⟨#[]⟩) = tellT s ∧ (tellM s).isSome = toldB s := by
      cases hb : toldB s <;> simp [tellM, tellT, hb]
    show Calls _ _ _ w fun e w' => e = .returned (.tuple #[.string (match tellM s with | some t => tx t | none => ⟨#[]⟩), .bool (tellM s).isSome]) ∧ _
    rw [hT.1, hT.2]
    exact schPut_told s.c s.r a _ cap ⟨#[]⟩ (tellT s) (toldB s) w KN KT

theorem gives_no {w w' : World} {e : Ending} (h : GivesS none w e w') : ∃ a c, e = .returned (.tuple #[.agg #[.int .i64 0, .int .i64 0, .slice a 0 c], .bool false]) ∧ Below w.heap.size w w' := let ⟨a, c, h1, _, h2⟩ := h; ⟨a, c, h1, h2⟩
theorem gives_some {w w' : World} {a : Option Addr} {cap : Nat} {s : Sc} (h : InF w.heap.size w' a s.l) (hb : Below w.heap.size w w') : GivesS (some s) w (.returned (.tuple #[.agg #[.int .i64 s.c, .int .i64 s.r, .slice a s.l.length cap], .bool true])) w' := ⟨a, cap, rfl, h, hb⟩

set_option maxHeartbeats 1000000 in
theorem schGet_found (g o cap : Nat) (X : ByteArray) (s : Sc) (w : World) (hx : w.cell? ⟨g, o, none⟩ = some (.string X))
    (KF : ∀ w1, Below w.heap.size w w1 → Calls Tryd.prog 17 #[.string X] w1 (GivesS (some s) w1)) :
    Calls Tryd.prog 22 #[.slice (some ⟨g, o, none⟩) 1 cap] w (GivesS (some s) w) := by
  have HF := Lib.hid KF
  clear KF
  have B0 := Lib.hid (up_alloc (Below.refl _ w) (.cells #[.int .i64 0, .int .i64 0, .slice none 0 0] 24))
  have x0 := bl_cell B0.out hx
  go_enter Tryd.func22, Tryd.ntmps22
  go_wp2_with fail
  refine (HF.out _ B0.out).mono ?_
  rintro e w1 ⟨a, c, rfl, hF, hb⟩
  have hF' : InF (w.heap.size + 1) w1 a s.l := by simpa using hF
  have hr := hF'.up (up_alloc (Below.refl _ _) (.cells #[.int .i64 s.c, .int .i64 s.r, .slice a s.l.length c] 24))
  have A1 := ((Bx.new w 24 [.int .i64 0, .int .i64 0, .slice none 0 0]).up hb).alloc (.cells #[.int .i64 s.c, .int .i64 s.r, .slice a s.l.length c] 24)
  have B1 := Lib.hid (up_alloc (up_trans B0.out hb) (.cells #[.int .i64 s.c, .int .i64 s.r, .slice a s.l.length c] 24))
  have HR := Lib.hid hr
  have a0 := A1.cell 0 rfl; have a1 := A1.cell 1 rfl; have a2 := A1.cell 2 rfl; have af := A1.free
  clear hF hF' hr hb A1
  go_wp2
  refine bodyPost_ret (v := .tuple #[.agg #[.int .i64 s.c, .int .i64 s.r, .slice a s.l.length c], .bool true]) (by simp [results, Tryd.results22, go_sem, a0, a1, a2]) rfl (gives_some ?_ ?_)
  · have HR2 := HR.out
    refine InF.mono (base := w.heap.size + 1) ?_ (by omega)
    repeat (first | (with_reducible exact HR2) | (with_reducible refine InF.set ?_ (by simp only; omega) _))
  · have B2 := B1.out
    repeat (first | (with_reducible exact B2) | (with_reducible refine up_set ?_ (by simp only; omega) _))

set_option maxHeartbeats 2000000 in
theorem schGet_many_none (a0 : Option Addr) (n cap : Nat) (w : World) (hn : n ≠ 1)
    (KR : ∀ w1, Below w.heap.size w w1 → Calls Tryd.prog 32 #[.slice a0 n cap] w1 (GivesS none w1)) :
    Calls Tryd.prog 22 #[.slice a0 n cap] w (GivesS none w) := by
  have HR := Lib.hid KR
  clear KR
  have z1 : ((n : Int) == 1) = false := by simp; omega
  clear hn
  have B0 := Lib.hid (up_alloc (Below.refl _ w) (.cells #[.int .i64 0, .int .i64 0, .slice none 0 0] 24))
  go_enter Tryd.func22, Tryd.ntmps22
  go_wp2_with fail
  have A0 := Bx.new w 24 [.int .i64 0, .int .i64 0, .slice none 0 0]
  refine ((HR.out _ B0.out).mono fun _ _ => gives_no).mono ?_
  rintro e w2 ⟨a, c, rfl, hb⟩
  clear HR
  have A2 := (A0.up hb).alloc (.cells #[.int .i64 0, .int .i64 0, .slice a 0 c] 24)
  have B2 := Lib.hid (up_alloc (up_trans B0.out hb) (.cells #[.int .i64 0, .int .i64 0, .slice a 0 c] 24))
  have a0 := A2.cell 0 rfl; have a1 := A2.cell 1 rfl; have a2 := A2.cell 2 rfl; have af := A2.free
  clear hb A2
  go_wp2
  refine bodyPost_ret (v := .tuple #[.agg #[.int .i64 0, .int .i64 0, .slice none 0 0], .bool false]) (by simp [results, Tryd.results22, go_sem, a0, a1, a2]) rfl (gives_none ?_)
  have B3 := B2.out
  repeat (first | (with_reducible exact B3) | (with_reducible refine up_set ?_ (by simp only; omega) _))

set_option maxHeartbeats 2000000 in
theorem schGet_many_some (a0 : Option Addr) (n cap : Nat) (w : World) (hn : n ≠ 1)
    (s : Sc) (T : ByteArray) (b : Bool) (F : Option Sc) (hF : F = if b = true then none else some s)
    (KR : ∀ w1, Below w.heap.size w w1 → Calls Tryd.prog 32 #[.slice a0 n cap] w1 (GivesS (some s) w1))
    (KN : ∀ a c w1, InL w1 a s.l → Below w.heap.size w w1 → Calls Tryd.prog 19 #[.agg #[.int .i64 s.c, .int .i64 s.r, .slice a s.l.length c]] w1 fun e w' => e = .returned (.tuple #[.string T, .bool b]) ∧ Below w1.heap.size w1 w') :
    Calls Tryd.prog 22 #[.slice a0 n cap] w (GivesS F w) := by
  have HF := Lib.hid hF; have HR := Lib.hid KR; have HN := Lib.hid KN
  clear hF KR KN
  have z1 : ((n : Int) == 1) = false := by simp; omega
  clear hn
  have B0 := Lib.hid (up_alloc (Below.refl _ w) (.cells #[.int .i64 0, .int .i64 0, .slice none 0 0] 24))
  go_enter Tryd.func22, Tryd.ntmps22
  go_wp2_with fail
  have A0 := Bx.new w 24 [.int .i64 0, .int .i64 0, .slice none 0 0]
  refine (HR.out _ B0.out).mono ?_
  rintro e w2 ⟨a, c, rfl, hF, hb⟩
  clear HR
  have hF' : InF (w.heap.size + 1) w2 a s.l := InF.mono hF A0.lt
  have HR := Lib.hid (hF'.up (up_alloc (Below.refl _ _) (.cells #[.int .i64 s.c, .int .i64 s.r, .slice a s.l.length c] 24)))
  have A2 := (A0.up hb).alloc (.cells #[.int .i64 s.c, .int .i64 s.r, .slice a s.l.length c] 24)
  have C2 := Bx.new w2 24 [.int .i64 s.c, .int .i64 s.r, .slice a s.l.length c]
  have B2 := Lib.hid (up_alloc (up_trans B0.out hb) (.cells #[.int .i64 s.c, .int .i64 s.r, .slice a s.l.length c] 24))
  clear hF hF' hb
  go_wp2_with fail
  refine (HN.out _ _ _ HR.out.inL B2.out).mono ?_
  rintro e w3 ⟨rfl, hb⟩
  have A3 := A2.up hb
  have C3 := C2.up hb
  have HR3 := Lib.hid (HR.out.up hb)
  have B3 := Lib.hid (up_trans B2.out hb)
  have a0 := A3.cell 0 rfl; have a1 := A3.cell 1 rfl; have a2 := A3.cell 2 rfl; have af := A3.free
  have c0 := C3.cell 0 rfl; have c1 := C3.cell 1 rfl; have c2 := C3.cell 2 rfl
  clear hb A2 A3 C2 C3
  cases b
  · have E := Lib.hid (show F = some s by rw [HF.out]; rfl)
    go_wp2
    rw [E.out]
    refine bodyPost_ret (v := .tuple #[.agg #[.int .i64 s.c, .int .i64 s.r, .slice a s.l.length c], .bool true]) (by simp [results, Tryd.results22, go_sem, a0, a1, a2]) rfl (gives_some ?_ ?_)
    · have HR4 := HR3.out
      refine InF.mono (base := w.heap.size + 1) ?_ (by omega)
      repeat (first | (with_reducible exact HR4) | (with_reducible refine InF.set ?_ (by simp only; omega) _))
    · have B4 := B3.out
      repeat (first | (with_reducible exact B4) | (with_reducible refine up_set ?_ (by simp only; omega) _))
  · have E := Lib.hid (show F = none by rw [HF.out]; rfl)
    go_wp2
    rw [E.out]
    refine bodyPost_ret (v := .tuple #[.agg #[.int .i64 0, .int .i64 0, .slice none 0 0], .bool false]) (by simp [results, Tryd.results22, go_sem, a0, a1, a2]) rfl (gives_none ?_)
    have B4 := B3.out
    repeat (first | (with_reducible exact B4) | (with_reducible refine up_set ?_ (by simp only; omega) _))

set_option maxHeartbeats 2000000 in
theorem schGet_one_none (g o cap : Nat) (X : ByteArray) (w : World) (hx : w.cell? ⟨g, o, none⟩ = some (.string X))
    (KF : ∀ w1, Below w.heap.size w w1 → Calls Tryd.prog 17 #[.string X] w1 (GivesS none w1))
    (KR : ∀ w1, Below w.heap.size w w1 → Calls Tryd.prog 32 #[.slice (some ⟨g, o, none⟩) 1 cap] w1 (GivesS none w1)) :
    Calls Tryd.prog 22 #[.slice (some ⟨g, o, none⟩) 1 cap] w (GivesS none w) := by
  have HR := Lib.hid KR
  clear KR
  have HFi := Lib.hid KF
  clear KF
  have B0 := Lib.hid (up_alloc (Below.refl _ w) (.cells #[.int .i64 0, .int .i64 0, .slice none 0 0] 24))
  have x0 := bl_cell B0.out hx
  go_enter Tryd.func22, Tryd.ntmps22
  go_wp2_with fail
  have A0 := Bx.new w 24 [.int .i64 0, .int .i64 0, .slice none 0 0]
  refine ((HFi.out _ B0.out).mono fun _ _ => gives_no).mono ?_
  rintro e w1 ⟨a9, c9, rfl, hb⟩
  have A1 := (A0.up hb).alloc (.cells #[.int .i64 0, .int .i64 0, .slice a9 0 c9] 24)
  have B1 := Lib.hid (up_alloc (up_trans B0.out hb) (.cells #[.int .i64 0, .int .i64 0, .slice a9 0 c9] 24))
  clear hb A0
  go_wp2_with fail
  refine ((HR.out _ B1.out).mono fun _ _ => gives_no).mono ?_
  rintro e w2 ⟨a, c, rfl, hb⟩
  clear HR
  have A2 := (A1.up hb).alloc (.cells #[.int .i64 0, .int .i64 0, .slice a 0 c] 24)
  have B2 := Lib.hid (up_alloc (up_trans B1.out hb) (.cells #[.int .i64 0, .int .i64 0, .slice a 0 c] 24))
  have a0 := A2.cell 0 rfl; have a1 := A2.cell 1 rfl; have a2 := A2.cell 2 rfl; have af := A2.free
  clear hb A2
  go_wp2
  refine bodyPost_ret (v := .tuple #[.agg #[.int .i64 0, .int .i64 0, .slice none 0 0], .bool false]) (by simp [results, Tryd.results22, go_sem, a0, a1, a2]) rfl (gives_none ?_)
  have B3 := B2.out
  repeat (first | (with_reducible exact B3) | (with_reducible refine up_set ?_ (by simp only; omega) _))

set_option maxHeartbeats 2000000 in
theorem schGet_one_some (g o cap : Nat) (X : ByteArray) (w : World) (hx : w.cell? ⟨g, o, none⟩ = some (.string X))
    (KF : ∀ w1, Below w.heap.size w w1 → Calls Tryd.prog 17 #[.string X] w1 (GivesS none w1))
    (s : Sc) (T : ByteArray) (b : Bool) (F : Option Sc) (hF : F = if b = true then none else some s)
    (KR : ∀ w1, Below w.heap.size w w1 → Calls Tryd.prog 32 #[.slice (some ⟨g, o, none⟩) 1 cap] w1 (GivesS (some s) w1))
    (KN : ∀ a c w1, InL w1 a s.l → Below w.heap.size w w1 → Calls Tryd.prog 19 #[.agg #[.int .i64 s.c, .int .i64 s.r, .slice a s.l.length c]] w1 fun e w' => e = .returned (.tuple #[.string T, .bool b]) ∧ Below w1.heap.size w1 w') :
    Calls Tryd.prog 22 #[.slice (some ⟨g, o, none⟩) 1 cap] w (GivesS F w) := by
  have HF := Lib.hid hF; have HR := Lib.hid KR; have HN := Lib.hid KN
  clear hF KR KN
  have HFi := Lib.hid KF
  clear KF
  have B0 := Lib.hid (up_alloc (Below.refl _ w) (.cells #[.int .i64 0, .int .i64 0, .slice none 0 0] 24))
  have x0 := bl_cell B0.out hx
  go_enter Tryd.func22, Tryd.ntmps22
  go_wp2_with fail
  have A0 := Bx.new w 24 [.int .i64 0, .int .i64 0, .slice none 0 0]
  refine ((HFi.out _ B0.out).mono fun _ _ => gives_no).mono ?_
  rintro e w1 ⟨a9, c9, rfl, hb⟩
  have A1 := (A0.up hb).alloc (.cells #[.int .i64 0, .int .i64 0, .slice a9 0 c9] 24)
  have B1 := Lib.hid (up_alloc (up_trans B0.out hb) (.cells #[.int .i64 0, .int .i64 0, .slice a9 0 c9] 24))
  clear hb A0
  go_wp2_with fail
  refine (HR.out _ B1.out).mono ?_
  rintro e w2 ⟨a, c, rfl, hF, hb⟩
  clear HR
  have hF' : InF (w.heap.size + 1) w2 a s.l := InF.mono hF A1.lt
  have HR := Lib.hid (hF'.up (up_alloc (Below.refl _ _) (.cells #[.int .i64 s.c, .int .i64 s.r, .slice a s.l.length c] 24)))
  have A2 := (A1.up hb).alloc (.cells #[.int .i64 s.c, .int .i64 s.r, .slice a s.l.length c] 24)
  have C2 := Bx.new w2 24 [.int .i64 s.c, .int .i64 s.r, .slice a s.l.length c]
  have B2 := Lib.hid (up_alloc (up_trans B1.out hb) (.cells #[.int .i64 s.c, .int .i64 s.r, .slice a s.l.length c] 24))
  clear hF hF' hb
  go_wp2_with fail
  refine (HN.out _ _ _ HR.out.inL B2.out).mono ?_
  rintro e w3 ⟨rfl, hb⟩
  have A3 := A2.up hb
  have C3 := C2.up hb
  have HR3 := Lib.hid (HR.out.up hb)
  have B3 := Lib.hid (up_trans B2.out hb)
  have a0 := A3.cell 0 rfl; have a1 := A3.cell 1 rfl; have a2 := A3.cell 2 rfl; have af := A3.free
  have c0 := C3.cell 0 rfl; have c1 := C3.cell 1 rfl; have c2 := C3.cell 2 rfl
  clear hb A2 A3 C2 C3
  cases b
  · have E := Lib.hid (show F = some s by rw [HF.out]; rfl)
    go_wp2
    rw [E.out]
    refine bodyPost_ret (v := .tuple #[.agg #[.int .i64 s.c, .int .i64 s.r, .slice a s.l.length c], .bool true]) (by simp [results, Tryd.results22, go_sem, a0, a1, a2]) rfl (gives_some ?_ ?_)
    · have HR4 := HR3.out
      refine InF.mono (base := w.heap.size + 1) ?_ (by omega)
      repeat (first | (with_reducible exact HR4) | (with_reducible refine InF.set ?_ (by simp only; omega) _))
    · have B4 := B3.out
      repeat (first | (with_reducible exact B4) | (with_reducible refine up_set ?_ (by simp only; omega) _))
  · have E := Lib.hid (show F = none by rw [HF.out]; rfl)
    go_wp2
    rw [E.out]
    refine bodyPost_ret (v := .tuple #[.agg #[.int .i64 0, .int .i64 0, .slice none 0 0], .bool false]) (by simp [results, Tryd.results22, go_sem, a0, a1, a2]) rfl (gives_none ?_)
    have B4 := B3.out
    repeat (first | (with_reducible exact B4) | (with_reducible refine up_set ?_ (by simp only; omega) _))

theorem find_len {n : List UInt8} (h : findM n ≠ none) : n.length ≤ 100 := by
  cases hf : findM n with
  | none => exact absurd hf h
  | some s =>
    have := (cat_short _ (find_some hf)).1
    simp only [rowE, List.length_append] at this
    omega
theorem schGet_any (a : Option Addr) (c : Nat) (ls : List (List UInt8)) (w : World) (h : TxA w a c ls) (hz : ∀ x ∈ ls, x.length ≤ 1000000) (hg : GoodM w) :
    Calls Tryd.prog 22 #[.slice a ls.length c] w (GivesS (getM ls) w) := by
  have KR := fun w1 (hb : Below w.heap.size w w1) => schRead_any a c ls w1 (h.up hb) hz (hg.below hb)
  have KN := fun (s : Sc) a c w1 (hI : InL w1 a s.l) (hb : Below w.heap.size w w1) => schName_any s a c w1 hI (hg.below hb)
  by_cases h1 : ls.length = 1
  · obtain ⟨x, rfl⟩ := List.length_eq_one_iff.1 h1
    obtain ⟨g, o, rfl, hc, hcap, hmax⟩ := h.resolve_left (by simp)
    have c0 := hc 0 x rfl
    rw [Nat.add_zero] at c0
    have KF := fun w1 (hb : Below w.heap.size w w1) => schFind_any x w1 (hg.below hb)
    cases hf : findM x with
    | some s =>
      rw [hf] at KF
      rw [get_name hf]
      exact schGet_found g o c (tx x) s w c0 KF
    | none =>
      rw [hf] at KF
      have h0 : ∀ n, [x] = [n] → findM n = none := by rintro n e; injection e with e; rw [← e]; exact hf
      cases hr : readM [x] with
      | none =>
        rw [hr] at KR
        rw [get_no_read h0 hr]
        exact schGet_one_none g o c (tx x) w c0 KF KR
      | some s =>
        rw [hr] at KR
        refine schGet_one_some g o c (tx x) w c0 KF s (nameT s) (nameM s).isSome _ ?_ KR (KN s)
        cases hn : nameM s with
        | none => exact get_read h0 hr hn
        | some n => exact get_named h0 hr hn
  · have h0 : ∀ n, ls = [n] → findM n = none := by rintro n rfl; exact absurd rfl h1
    cases hr : readM ls with
    | none =>
      rw [hr] at KR
      rw [get_no_read h0 hr]
      exact schGet_many_none a _ c w h1 KR
    | some s =>
      rw [hr] at KR
      refine schGet_many_some a _ c w h1 s (nameT s) (nameM s).isSome _ ?_ KR (KN s)
      cases hn : nameM s with
      | none => exact get_read h0 hr hn
      | some n => exact get_named h0 hr hn
end Go.Proofs.YtaphkplidnepaaaDoor
