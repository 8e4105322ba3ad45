/- What deck's calls answer (Of, Len, List, lay, Over, Under, Into), for every input, at numbers. -/
import Derived.Test.YtiekhpeekhibeaaDeckLib
import Derived.Deep.RegionHeld3
import Derived.BigRegion
namespace Go.Proofs.Ytiekhpeekhibeaa
open Go.RowKit
set_option linter.unusedVariables false

/-- A deck that was made just now, of l. -/
def New (w : World) (l : List Int) (e : Ending) (w' : World) : Prop := ∃ D R, e = .returned (.pointer (some ⟨D, 0, none⟩)) ∧ Dk w' D R l ∧ w.heap.size ≤ D ∧ w.heap.size ≤ R ∧ Below w.heap.size w w'
/-- A list that was made just now. -/
def Lists (w : World) (l : List Int) (e : Ending) (w' : World) : Prop := ∃ v, e = .returned v ∧ w'.ownsRow w.heap.size 3 1 v l.length (enc l) ∧ Below w.heap.size w w'

theorem of_any {w : World} {a : Option Addr} {l : List Int} (c : Nat) (h : Nums w a l) (hm : l.length ≤ 1000000) :
    Calls Try.prog 9 #[.slice a l.length c] w (New w l) := by
  have HK := Lib.hid (clone_any c h hm)
  clear h
  go_enter Try.func9, Try.ntmps9
  go_wp2_with fail
  refine HK.out.mono ?_
  rintro e w1 ⟨v, rfl, hrow, hb⟩
  have HR := Lib.hid hrow; have HB := Lib.hid hb
  obtain ⟨a', c', rfl, _, _⟩ := Nums.own hrow
  clear hrow hb HK
  go_wp2
  go_ret
  obtain ⟨R, hr, hR⟩ := RowAt.of HR.out w1.heap.size
  have hs := HB.out.size
  refine ⟨w1.heap.size, R, rfl, ⟨_, Boxed.new w1 _ _, hr.kept (fun hl => Below.heap_alloc _ _ _ hl), fun e => ?_⟩, hs, ?_, up_alloc HB.out _⟩
  · rcases hR with ⟨_, h2⟩ | ⟨_, _, h3⟩
    · exact h2
    · exact absurd e h3
  · rcases hR with ⟨_, h2⟩ | ⟨h1, _, h3⟩
    · omega
    · exact h1

theorem len_any {w : World} {D R : Nat} {l : List Int} (h : Dk w D R l) :
    Calls Try.prog 10 #[.pointer (some ⟨D, 0, none⟩)] w fun e w' => e = .returned (.int .i64 (l.length : Int)) ∧ w' = w := by
  obtain ⟨v, h1, h2, _⟩ := h
  obtain ⟨a', c', rfl, _, _⟩ := h2.nums
  have b0 := h1.cell
  clear h1 h2
  go_enter Try.func10, Try.ntmps10
  go_wp2
  go_ret
  exact ⟨rfl, rfl⟩
theorem len_nil (w : World) : Calls Try.prog 10 #[.pointer none] w fun e w' => e = .returned (.int .i64 0) ∧ w' = w := by
  go_enter Try.func10, Try.ntmps10
  go_wp2
  go_ret
  exact ⟨rfl, rfl⟩
theorem list_any {w : World} {D R : Nat} {l : List Int} (h : Dk w D R l) (hm : l.length ≤ 1000000) :
    Calls Try.prog 12 #[.pointer (some ⟨D, 0, none⟩)] w (Lists w l) := by
  obtain ⟨v, h1, h2, _⟩ := h
  obtain ⟨a', c', rfl, h3, _⟩ := h2.nums
  have b0 := h1.cell
  have HK := Lib.hid (clone_any c' h3 hm)
  clear h1 h2 h3
  go_enter Try.func12, Try.ntmps12
  go_wp2_with fail
  refine HK.out.mono ?_
  rintro e w1 ⟨v, rfl, hrow, hb⟩
  have HR := Lib.hid hrow; have HB := Lib.hid hb
  clear hrow hb HK
  go_wp2
  go_ret
  exact ⟨_, rfl, HR.out, HB.out⟩
theorem list_nil (w : World) : Calls Try.prog 12 #[.pointer none] w fun e w' => e = .returned (.slice none 0 0) ∧ w' = w := by
  go_enter Try.func12, Try.ntmps12
  go_wp2
  go_ret
  exact ⟨rfl, rfl⟩
/-- A deck, or none, which has these. -/
def Has (w : World) (p : Option Addr) (l : List Int) : Prop := (p = none ∧ l = []) ∨ ∃ D R, p = some ⟨D, 0, none⟩ ∧ Dk w D R l
theorem Has.up {w w' : World} {p : Option Addr} {l : List Int} (h : Has w p l) (hb : Below w.heap.size w w') : Has w' p l := by
  rcases h with h | ⟨D, R, e, h⟩
  · exact .inl h
  · exact .inr ⟨D, R, e, h.up hb⟩
theorem list_has {w : World} {p : Option Addr} {l : List Int} (h : Has w p l) (hm : l.length ≤ 1000000) : Calls Try.prog 12 #[.pointer p] w (Lists w l) := by
  rcases h with ⟨rfl, rfl⟩ | ⟨D, R, rfl, h⟩
  · refine (list_nil w).mono ?_
    rintro e w' ⟨rfl, rfl⟩
    exact ⟨_, rfl, World.ownsRow_nil _ _ _ _, Below.refl _ _⟩
  · exact list_any h hm

theorem lay_nil (k : Int) (p : Option Addr) (w : World) : Calls Try.prog 23 #[.pointer none, .int .i64 k, .pointer p] w fun e w' => e = .returned (.tuple #[]) ∧ w' = w := by
  go_enter Try.func23, Try.ntmps23
  go_wp2
  exact bodyPost_ret (results_none rfl _ _ _) rfl ⟨rfl, rfl⟩

/-- A deck's box stays, whatever is done in its list. -/
theorem boxed_but {w1 w2 : World} {D R : Nat} {v : Value} {l : List Int} (h : Boxed w1 D 43 v) (hr : RowAt w1 R v l) (hb : But R R w1 w2) (hn : v = .slice none 0 0 → Below w1.heap.size w1 w2) : Boxed w2 D 43 v := by
  rcases hr with ⟨rfl, _⟩ | ⟨off, c, cur, _, hc, _⟩
  · exact ((hn rfl).block D h.lt).trans h
  · have := box_row h hc
    exact (hb.block D h.lt (Ne.symm this) (Ne.symm this)).trans h

set_option maxHeartbeats 1000000 in
theorem lay_any {w : World} {D R : Nat} {l : List Int} (h : Dk w D R l) {p : Option Addr} {xs : List Int} (ho : Has w p xs) (k : Nat) (hk : k ≤ l.length) (hl : l.length ≤ 1000000) (hx : xs.length ≤ 1000000) :
    Calls Try.prog 23 #[.pointer (some ⟨D, 0, none⟩), .int .i64 (k : Int), .pointer p] w fun e w' => e = .returned (.tuple #[]) ∧ Made w D R (ins k xs l) w' := by
  have hltR := h.ltR
  have HD := Lib.hid h
  obtain ⟨v, h1, h2, h3⟩ := h
  have KL := fun (w' : World) (hb : Below w.heap.size w w') => list_has (ho.up hb) hx
  have KI := fun (w' : World) (hb : Below w.heap.size w w') (u : Value) (hu : w'.ownsRow w.heap.size 3 1 u xs.length (enc xs)) => insert_any (h2.kept (fun hr => hb.block R hr)) w.heap.size u xs hu hltR k hk hl hx
  have HL := Lib.hid KL; have HI := Lib.hid KI; have H1 := Lib.hid h1; have H2 := Lib.hid h2; have H3 := Lib.hid h3; have HR := Lib.hid hltR
  have b0 := h1.cell
  obtain ⟨a', c', rfl, _, _⟩ := h2.nums
  clear KL KI h1 h2 h3 ho hltR
  go_enter Try.func23, Try.ntmps23
  go_wp2
  have hD0 := H1.out
  go_region_with (first
      | (go_at_call 12; refine (HL.out _ (up_drew (Below.refl _ _))).mono ?_; rintro e w1 ⟨u, rfl, hu, hb1⟩; have hB1 : Below w.heap.size w w1 := up_trans (up_drew (Below.refl _ _)) hb1; have hD1 : Boxed w1 D 43 (.slice a' l.length c') := (hB1.block _ H1.out.lt).trans H1.out; have b1 := hD1.cell)
      | (go_at_call 25; refine (HI.out _ hB1 _ hu).mono ?_; rintro e w2 ⟨v', R', rfl, hr', hn', hR', hb2, hu2⟩; obtain ⟨a2, c2, rfl, _, _⟩ := hr'.nums; have hD2 : Boxed w2 D 43 (.slice a' l.length c') := boxed_but hD1 (H2.out.kept (fun hr => hB1.block R hr)) hb2 hu2; have b2 := hD2.cell; have f2 := hD2.frozen))
  all_goals
    go_end0
    refine ⟨rfl, HD.out.put ((But.of hB1).trans hb2.more (.inr (.inl rfl))) hD2 _ hr' (fun e => ?_) (hR'.elim (fun h => .inr (.inl h)) (fun h => .inr (.inr (Nat.le_trans hB1.size h))))⟩
    obtain ⟨e1, e2⟩ := hn' e
    rw [e2]
    exact H3.out e1

theorem ins_zero (xs l : List Int) : ins 0 xs l = xs ++ l := by simp [ins]
theorem ins_last (xs l : List Int) : ins l.length xs l = l ++ xs := by simp [ins]
theorem over_any {w : World} {D R : Nat} {l : List Int} (h : Dk w D R l) {p : Option Addr} {xs : List Int} (ho : Has w p xs) (hl : l.length ≤ 1000000) (hx : xs.length ≤ 1000000) :
    Calls Try.prog 16 #[.pointer (some ⟨D, 0, none⟩), .pointer p] w fun e w' => e = .returned (.tuple #[]) ∧ Made w D R (xs ++ l) w' := by
  have HK := Lib.hid (lay_any h ho 0 (Nat.zero_le _) hl hx)
  rw [ins_zero] at HK
  clear h ho
  go_enter Try.func16, Try.ntmps16
  go_wp2_with fail
  refine HK.out.mono ?_
  rintro e w1 ⟨rfl, hm⟩
  have HM := Lib.hid hm
  clear hm HK
  go_wp2
  go_end0
  exact ⟨rfl, HM.out⟩
theorem under_any {w : World} {D R : Nat} {l : List Int} (h : Dk w D R l) {p : Option Addr} {xs : List Int} (ho : Has w p xs) (hl : l.length ≤ 1000000) (hx : xs.length ≤ 1000000) :
    Calls Try.prog 17 #[.pointer (some ⟨D, 0, none⟩), .pointer p] w fun e w' => e = .returned (.tuple #[]) ∧ Made w D R (l ++ xs) w' := by
  have HK := Lib.hid (lay_any h ho l.length (Nat.le_refl _) hl hx)
  rw [ins_last] at HK
  have HN := Lib.hid (len_any h)
  clear h ho
  go_enter Try.func17, Try.ntmps17
  go_wp2_with (go_at_call 10; refine HN.out.mono ?_; rintro e w' ⟨rfl, rfl⟩)
  refine HK.out.mono ?_
  rintro e w1 ⟨rfl, hm⟩
  have HM := Lib.hid hm
  clear hm HK
  go_wp2
  go_end0
  exact ⟨rfl, HM.out⟩
theorem over_nil (p : Option Addr) (w : World) : Calls Try.prog 16 #[.pointer none, .pointer p] w fun e w' => e = .returned (.tuple #[]) ∧ w' = w := by
  have HK := Lib.hid (lay_nil 0 p w)
  go_enter Try.func16, Try.ntmps16
  go_wp2_with (go_at_call 23; refine HK.out.mono ?_; rintro e w' ⟨rfl, rfl⟩)
  go_end0
  exact ⟨rfl, rfl⟩
theorem under_nil (p : Option Addr) (w : World) : Calls Try.prog 17 #[.pointer none, .pointer p] w fun e w' => e = .returned (.tuple #[]) ∧ w' = w := by
  have HK := Lib.hid (lay_nil 0 p w); have HN := Lib.hid (len_nil w)
  go_enter Try.func17, Try.ntmps17
  go_wp2_with (first | (go_at_call 10; refine HN.out.mono ?_; rintro e w' ⟨rfl, rfl⟩) | (go_at_call 23; refine HK.out.mono ?_; rintro e w' ⟨rfl, rfl⟩))
  go_end0
  exact ⟨rfl, rfl⟩
theorem into_nil (p : Option Addr) (w : World) : Calls Try.prog 18 #[.pointer none, .pointer p] w fun e w' => e = .returned (.bool false) ∧ w' = w := by
  go_enter Try.func18, Try.ntmps18
  go_wp2
  go_ret
  exact ⟨rfl, rfl⟩
theorem into_odd {w : World} {D R : Nat} {l : List Int} (h : Dk w D R l) (p : Option Addr) (ho : l.length % 2 = 1) :
    Calls Try.prog 18 #[.pointer (some ⟨D, 0, none⟩), .pointer p] w fun e w' => e = .returned (.bool false) ∧ w' = w := by
  have HN := Lib.hid (len_any h)
  clear h
  obtain ⟨n, hn⟩ : ∃ n, l.length = n := ⟨_, rfl⟩
  rw [hn] at ho HN
  have r1 : (n : Int).tmod 2 = 1 := by rw [Int.tmod_eq_emod_of_nonneg (by omega)]; omega
  go_enter Try.func18, Try.ntmps18
  go_wp2_with (go_at_call 10; refine HN.out.mono ?_; rintro e w' ⟨rfl, rfl⟩)
  go_ret
  exact ⟨rfl, rfl⟩
theorem into_even {w : World} {D R : Nat} {l : List Int} (h : Dk w D R l) {p : Option Addr} {xs : List Int} (hp : Has w p xs) (hl : l.length ≤ 1000000) (hx : xs.length ≤ 1000000) (ho : l.length % 2 = 0) :
    Calls Try.prog 18 #[.pointer (some ⟨D, 0, none⟩), .pointer p] w fun e w' => e = .returned (.bool true) ∧ Made w D R (ins (l.length / 2) xs l) w' := by
  have HN := Lib.hid (len_any h)
  have HK := Lib.hid (lay_any h hp (l.length / 2) (by omega) hl hx)
  clear h hp
  obtain ⟨n, hn⟩ : ∃ n, l.length = n := ⟨_, rfl⟩
  rw [hn] at ho HN HK ⊢
  have r1 : (n : Int).tmod 2 = 0 := by rw [Int.tmod_eq_emod_of_nonneg (by omega)]; omega
  obtain ⟨m, hm⟩ : ∃ m, n / 2 = m := ⟨_, rfl⟩
  rw [hm] at HK ⊢
  have r2 : (n : Int).tdiv 2 = (m : Int) := by rw [Int.tdiv_eq_ediv_of_nonneg (by omega)]; omega
  have r3 : IntKind.i64.wrap (m : Int) = (m : Int) := IntWalk.i64_in _ (by omega)
  clear hm hn
  go_enter Try.func18, Try.ntmps18
  go_wp2_with (go_at_call 10; refine HN.out.mono ?_; rintro e w' ⟨rfl, rfl⟩)
  refine HK.out.mono ?_
  rintro e w1 ⟨rfl, hm⟩
  have HM := Lib.hid hm
  clear hm HK HN
  go_wp2
  go_ret
  exact ⟨rfl, HM.out⟩
end Go.Proofs.Ytiekhpeekhibeaa
