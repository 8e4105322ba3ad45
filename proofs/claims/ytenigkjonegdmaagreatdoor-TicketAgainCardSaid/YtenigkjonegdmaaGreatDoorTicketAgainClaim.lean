/- Of any text, what Parse answers is a job of nothing beside an error, or a job that Put tells and that Parse answers again of that ticket (texts of more than 3000 octets are let off): TicketAgain answers true -/
import Derived.Test.YtenigkjonegdmaaGreatDoorPart12
import Derived.Test.YtenigkjonegdmaaGreatDoorPart15
import Derived.Test.YtenigkjonegdmaaGreatDoorRows
import Derived.Test.YtenigkjonegdmaaGreatDoorCards
import Derived.Test.YtenigkjonegdmaaGreatDoorTie
import Derived.WalkKit
import Derived.LaidMore
import Derived.Lay
import Derived.MakeChecks
import Derived.Stop.Joined
import Derived.SevenTiedAt
import Derived.ProofKit
import Derived.OpenShut
import Derived.ShutString
import Derived.ChangeOld
import Derived.Below
import Derived.Lib.SmallJoins
import Derived.Laws.IdiomArrays
/- What TicketAgain answers: true, of every text. -/
namespace Go.Proofs.YtenigkjonegdmaaGreatDoor
open Go.RowKit
set_option linter.unusedVariables false
set_option linter.unusedSimpArgs false

theorem take_names {M : Nat} (k : Ky) {l : List (List UInt8)} {c : Jb} (hl : ∀ q ∈ l, q.length ≤ M) (hc : ∀ p ∈ c.ls, p.length ≤ M) : ∀ p ∈ (takeM k l c).2.ls, p.length ≤ M := by
  have hz : ∀ p ∈ zeroJ.ls, p.length ≤ M := by simp [zeroJ]
  unfold takeM titleM wordM schemeM lastM numbersM
  repeat' split
  all_goals first
    | exact hz
    | exact hc
    | exact hl
theorem line_names {M : Nat} {met : List (List UInt8)} {c : Jb} (s : List UInt8) (hs : s.length ≤ M) (hc : ∀ p ∈ c.ls, p.length ≤ M) : ∀ p ∈ (lineM met c s).2.1.ls, p.length ≤ M := by
  have hz : ∀ p ∈ zeroJ.ls, p.length ≤ M := by simp [zeroJ]
  unfold lineM
  split
  · exact hz
  · exact hc
  · rename_i w l hf
    split
    · exact hz
    · rename_i k hk
      split
      · exact hz
      · refine take_names k (fun q hq => ?_) hc
        have h1 := fieldsL_octets hf
        have h2 := mem_flatten_len (l := w :: l) (q := q) (List.mem_cons_of_mem _ hq)
        omega
theorem parse_small {M : Nat} : ∀ (L : List (List UInt8)) (i : Nat) (met : List (List UInt8)) (c : Jb), (∀ q ∈ L, q.length ≤ M) → ShortJ c → (∀ p ∈ c.ls, p.length ≤ M) → ShortJ (parseM L i met c).1 ∧ ∀ p ∈ (parseM L i met c).1.ls, p.length ≤ M
  | [], i, met, c, _, h1, h2 => by
    rw [parseM]
    split
    · exact ⟨⟨by simp [zeroJ, zeroSc], by simp [zeroJ]⟩, by simp [zeroJ]⟩
    · exact ⟨h1, h2⟩
  | s :: L, i, met, c, h, h1, h2 => by
    rw [parseM]
    split
    · exact parse_small L _ _ _ (fun q hq => h q (List.mem_cons_of_mem _ hq)) (line_short s h1) (line_names s (h s (by simp)) h2)
    · exact ⟨⟨by simp [zeroJ, zeroSc], by simp [zeroJ]⟩, by simp [zeroJ]⟩
theorem ticket_small (s : List UInt8) : ShortJ (ticketM s).1 ∧ ∀ p ∈ (ticketM s).1.ls, p.length ≤ s.length := by
  unfold ticketM
  refine parse_small _ _ _ _ (fun q hq => ?_) ⟨by simp [zeroJ, zeroSc], by simp [zeroJ]⟩ (by simp [zeroJ])
  have := lines_octets s [] q hq
  simpa using this

theorem few_any (s : ByteArray) (w : World) (hs : s.size ≤ maxLen) : Calls Tryz.prog 11 #[.string s] w fun e w' => e = .returned (.bool (decide (s.size ≤ 3000))) ∧ w' = w := by
  obtain ⟨b, hb⟩ : ∃ b, decide (s.size ≤ 3000) = b := ⟨_, rfl⟩
  have e : decide ((s.size : Int) ≤ 3000) = b := by rw [← hb]; exact decide_eq_decide.2 (by omega)
  rw [hb]
  go_enter Tryz.func11, Tryz.ntmps11
  go_wp2
  go_ret
  exact ⟨rfl, rfl⟩

set_option maxRecDepth 100000 in
set_option maxHeartbeats 4000000 in
/-- A text that is no ticket: what is answered is a job of nothing. -/
theorem again_none (s : ByteArray) (er : Int) (w : World) (hs : s.size ≤ maxLen) (hg : GoodM w) (hf : s.size ≤ 3000) (he : (er == 0) = false)
    (KP : ∀ w1, GoodM w1 → Calls Tryz.prog 9 #[.string s] w1 fun e w' => ∃ cs n, e = .returned (.tuple #[.agg cs.toArray, .int .i64 n, .int .i64 er]) ∧ JobA w' cs zeroJ ∧ Below w1.heap.size w1 w') :
    Calls Tryz.prog 4 #[.string s] w fun e w' => e = .returned (.bool true) ∧ Below w.heap.size w w' := by
  have HA := Lib.hid (tAlive_any w hg)
  have KF := fun w1 => few_any s w1 hs
  rw [decide_eq_true hf] at KF
  have HF := Lib.hid KF; have HP := Lib.hid KP; have HG := Lib.hid hg
  have he2 : (er != 0) = true := by simpa using he
  have KS := fun ds w1 (h1 : JobA w1 ds zeroJ) => jobSame_any ds zeroL zeroJ w1 h1 (zeroL_job (G := fun _ => True)).jobA (by simp [zeroJ, zeroSc]) (by simp [zeroJ])
  have HS := Lib.hid KS
  clear hs hg hf KF KP KS
  go_enter Tryz.func4, Tryz.ntmps4
  go_wp2_with fail
  refine HA.out.mono ?_
  rintro e w2 ⟨rfl, hb⟩
  have HB2 := Lib.hid hb
  clear hb HA
  go_wp2_with fail
  refine (HF.out _).mono ?_
  rintro e w3 ⟨rfl, rfl⟩
  go_wp2_with fail
  refine (HP.out _ (HG.out.below HB2.out)).mono ?_
  rintro e w5 ⟨ds, n, rfl, hJ, hb⟩
  have hld := hJ.length
  have HLd := Lib.hid hld
  have H1d := Lib.hid hJ.one
  have hZ5 := Bx.new w5 29 zeroL
  have HZ5 := Lib.hid hZ5
  have hba := below_setCells (Nat.le_refl w5.heap.size) ds 0 _ (up_alloc (Below.refl w5.heap.size w5) (.cells zeroL.toArray 29))
  have HY6 := Lib.hid (hZ5.sets (ws := ds) (by rw [hld]; rfl))
  have HB6 := Lib.hid (up_trans (up_trans HB2.out hb) hba)
  have HS6 := Lib.hid (HS.out ds _ (hJ.up hba))
  clear hJ hld hb hZ5 hba
  go_wp2_with (first
    | (refine wpList_alloc_to rfl 29 rfl _ _ (job_alloc _) ?_; simp only [Act.put, List.setIfInBounds_toArray, List.set_cons_succ, List.set_cons_zero])
    | (refine wpList_store_job rfl _ _ rfl w5.heap.size rfl zeroL ds rfl HZ5.out rfl HLd.out H1d.out ?_; simp only [Act.put])
    | (refine wpList_load_job rfl _ rfl w5.heap.size rfl ds HY6.out HLd.out ?_; simp only [Act.put, List.setIfInBounds_toArray, List.set_cons_succ, List.set_cons_zero])
    | (refine wpList_zero_job rfl rfl ?_; simp only [Act.put, List.setIfInBounds_toArray, List.set_cons_succ, List.set_cons_zero]))
  refine HS6.out.mono ?_
  rintro e w7 ⟨rfl, hb⟩
  have HB7 := Lib.hid (up_trans HB6.out hb)
  clear hb
  go_wp2
  go_ret
  exact ⟨rfl, HB7.out⟩

set_option maxRecDepth 100000 in
set_option maxHeartbeats 4000000 in
/-- A ticket. -/
theorem again_some (s S : ByteArray) (r : Jb) (nn : Int) (w : World) (hs : s.size ≤ maxLen) (hg : GoodM w) (hf : s.size ≤ 3000) (hfl : r.f.l.length ≤ 1000000) (hls : r.ls.length ≤ 1000000)
    (KP : ∀ w1, GoodM w1 → Calls Tryz.prog 9 #[.string s] w1 fun e w' => ∃ cs n, e = .returned (.tuple #[.agg cs.toArray, .int .i64 n, .int .i64 0]) ∧ JobA w' cs r ∧ Below w1.heap.size w1 w')
    (KT : ∀ cs w1, JobA w1 cs r → GoodM w1 → Calls Tryz.prog 7 #[.agg cs.toArray] w1 fun e w' => e = .returned (.tuple #[.string S, .bool true]) ∧ Below w1.heap.size w1 w')
    (KB : ∀ w1, GoodM w1 → Calls Tryz.prog 9 #[.string S] w1 fun e w' => ∃ cs, e = .returned (.tuple #[.agg cs.toArray, .int .i64 nn, .int .i64 0]) ∧ JobA w' cs r ∧ Below w1.heap.size w1 w') :
    Calls Tryz.prog 4 #[.string s] w fun e w' => e = .returned (.bool true) ∧ Below w.heap.size w w' := by
  have HA := Lib.hid (tAlive_any w hg)
  have KF := fun w1 => few_any s w1 hs
  rw [decide_eq_true hf] at KF
  have HF := Lib.hid KF; have HP := Lib.hid KP; have HT := Lib.hid KT; have HK := Lib.hid KB; have HG := Lib.hid hg
  have KS := fun cs ds w1 (h1 : JobA w1 cs r) (h2 : JobA w1 ds r) => jobSame_any cs ds r w1 h1 h2 hfl hls
  have HS := Lib.hid KS
  clear hs hg hf KF KP KS KT KB hfl hls
  go_enter Tryz.func4, Tryz.ntmps4
  go_wp2_with fail
  refine HA.out.mono ?_
  rintro e w2 ⟨rfl, hb⟩
  have HB2 := Lib.hid hb
  clear hb HA
  go_wp2_with fail
  refine (HF.out _).mono ?_
  rintro e w3 ⟨rfl, rfl⟩
  go_wp2_with fail
  refine (HP.out _ (HG.out.below HB2.out)).mono ?_
  rintro e w5 ⟨cs, n, rfl, hJ, hb⟩
  have hld := hJ.length
  have HLd := Lib.hid hld
  have H1d := Lib.hid hJ.one
  have hZ5 := Bx.new w5 29 zeroL
  have HZ5 := Lib.hid hZ5
  have hba := below_setCells (Nat.le_refl w5.heap.size) cs 0 _ (up_alloc (Below.refl w5.heap.size w5) (.cells zeroL.toArray 29))
  have HY6 := Lib.hid (hZ5.sets (ws := cs) (by rw [hld]; rfl))
  have HB6 := Lib.hid (up_trans (up_trans HB2.out hb) hba)
  have HJ6 := Lib.hid (hJ.up hba)
  have HT6 := Lib.hid (HT.out cs _ HJ6.out (HG.out.below HB6.out))
  clear hJ hld hb hZ5 hba
  go_wp2_with (first
    | (refine wpList_alloc_to rfl 29 rfl _ _ (job_alloc _) ?_; simp only [Act.put, List.setIfInBounds_toArray, List.set_cons_succ, List.set_cons_zero])
    | (refine wpList_store_job rfl _ _ rfl w5.heap.size rfl zeroL cs rfl HZ5.out rfl HLd.out H1d.out ?_; simp only [Act.put])
    | (refine wpList_load_job rfl _ rfl w5.heap.size rfl cs HY6.out HLd.out ?_; simp only [Act.put, List.setIfInBounds_toArray, List.set_cons_succ, List.set_cons_zero]))
  refine HT6.out.mono ?_
  rintro e w7 ⟨rfl, hb⟩
  have HB7 := Lib.hid (up_trans HB6.out hb)
  have HY7 := Lib.hid (HY6.out.later (by rw [HLd.out]; decide) hb)
  have HJ7 := Lib.hid (HJ6.out.up hb)
  obtain ⟨B, hB⟩ : ∃ B, w5.heap.size = B := ⟨_, rfl⟩
  rw [hB] at HY7 ⊢
  clear hb HY6 HJ6 HB6 HT6 hB HZ5
  go_wp2_with fail
  refine (HK.out _ (HG.out.below HB7.out)).mono ?_
  rintro e w8 ⟨ds, rfl, hJ, hb⟩
  have hld := hJ.length
  have HLe := Lib.hid hld
  have H1e := Lib.hid hJ.one
  have hZ8 := Bx.new w8 29 zeroL
  have HZ8 := Lib.hid hZ8
  have hba := below_setCells (Nat.le_refl w8.heap.size) ds 0 _ (up_alloc (Below.refl w8.heap.size w8) (.cells zeroL.toArray 29))
  have HX9 := Lib.hid ((HY7.out.later (by rw [HLd.out]; decide) hb).later (by rw [HLd.out]; decide) hba)
  have HY9 := Lib.hid (hZ8.sets (ws := ds) (by rw [hld]; rfl))
  have HB9 := Lib.hid (up_trans (up_trans HB7.out hb) hba)
  have HS9 := Lib.hid (HS.out ds cs _ (hJ.up hba) ((HJ7.out.up hb).up hba))
  clear hJ hld hb hZ8 hba
  go_wp2_with (first
    | (refine wpList_alloc_to rfl 29 rfl _ _ (job_alloc _) ?_; simp only [Act.put, List.setIfInBounds_toArray, List.set_cons_succ, List.set_cons_zero])
    | (refine wpList_store_job rfl _ _ rfl w8.heap.size rfl zeroL ds rfl HZ8.out rfl HLe.out H1e.out ?_; simp only [Act.put])
    | (refine wpList_load_job_want _ rfl rfl w8.heap.size rfl ds HY9.out HLe.out ?_; simp only [Act.put, List.setIfInBounds_toArray, List.set_cons_succ, List.set_cons_zero])
    | (refine wpList_load_job_want _ rfl rfl B rfl cs HX9.out HLd.out ?_; simp only [Act.put, List.setIfInBounds_toArray, List.set_cons_succ, List.set_cons_zero]))
  refine HS9.out.mono ?_
  rintro e w10 ⟨rfl, hb⟩
  have HB10 := Lib.hid (up_trans HB9.out hb)
  clear hb
  go_wp2
  go_ret
  exact ⟨rfl, HB10.out⟩

set_option maxRecDepth 100000 in
theorem again_long (s : ByteArray) (w : World) (hs : s.size ≤ maxLen) (hg : GoodM w) (hf : ¬ s.size ≤ 3000) :
    Calls Tryz.prog 4 #[.string s] w fun e w' => e = .returned (.bool true) ∧ Below w.heap.size w w' := by
  have HA := Lib.hid (tAlive_any w hg)
  have KF := fun w1 => few_any s w1 hs
  rw [decide_eq_false hf] at KF
  have HF := Lib.hid KF
  clear hs hg hf KF
  go_enter Tryz.func4, Tryz.ntmps4
  go_wp2_with fail
  refine HA.out.mono ?_
  rintro e w2 ⟨rfl, hb⟩
  have HB2 := Lib.hid hb
  clear hb HA
  go_wp2_with fail
  refine (HF.out _).mono ?_
  rintro e w3 ⟨rfl, rfl⟩
  go_wp2
  go_ret
  exact ⟨rfl, HB2.out⟩

theorem walkTicketAgain (s : ByteArray) (w : World) (hs : s.size ≤ maxLen) (hg : GoodM w) :
    Calls Tryz.prog 4 #[.string s] w fun e w' => e = .returned (.bool true) ∧ Below w.heap.size w w' := by
  by_cases hf : s.size ≤ 3000
  · have KP := fun w1 g => parse_any s.data.toList w1 (by rw [size_data]; omega) g
    rw [tx_data] at KP
    have hsm := ticket_small s.data.toList
    have her := ticket_err (s := s.data.toList)
    have htl := fun r n => ticket_told (s := s.data.toList) (r := r) (n := n)
    unfold GivesPa at KP
    rw [size_data] at hsm
    generalize ticketM s.data.toList = R at *
    obtain ⟨r, n, er⟩ := R
    simp only at KP hsm her
    by_cases h0 : er = 0
    · subst h0
      obtain ⟨ht, hw⟩ := htl r n rfl
      have KT := fun cs w1 (hJ : JobA w1 cs r) (g : GoodM w1) => put_any cs r w1 hJ hw 3000 (fun l hl => by have := hsm.2 l hl; omega) (by decide) hsm.1.2 g
      have KB := fun w1 (g : GoodM w1) => parse_told_any ht hw 3000 (fun l hl => by have := hsm.2 l hl; omega) (by decide) w1 g
      unfold putT' at KT
      rw [ht, if_pos rfl] at KT
      exact again_some s (tx (textJ r)) r _ w hs hg hf hsm.1.1 hsm.1.2 (fun w1 g => (KP w1 g).mono fun e w' ⟨cs, he, hJ, hb⟩ => ⟨cs, _, he, hJ.jobA, hb⟩) KT KB
    · obtain rfl := her h0
      exact again_none s er w hs hg hf (by simpa using h0) (fun w1 g => (KP w1 g).mono fun e w' ⟨cs, he, hJ, hb⟩ => ⟨cs, _, he, hJ.jobA, hb⟩)
  · exact again_long s w hs hg hf
end Go.Proofs.YtenigkjonegdmaaGreatDoor
/- Of any text, what Parse answers is a job of nothing beside an error, or a job that Put tells and that Parse answers again of that ticket (texts of more than 3000 octets are let off): TicketAgain answers true -/
namespace Go.Proofs.YtenigkjonegdmaaGreatDoor.ticketAgain
open Go.ChangeShapes Go.WideShapes Go.ChangeAt Go.RowKit Go.Joins
open Go.ChangeMaps (open_string shut_string)
set_option linter.unusedVariables false

theorem own : ownKnob Tryz.prog.godebug = none := by kernel_rfl
theorem laidOut : laidOutB Tryz.prog = true := by kernel_rfl
/-- A slice of integers that came in: nil, or a row of cells. -/
def IsRow (k : IntKind) (w : World) (a : Option Addr) (len cap : Nat) (zs : List Int) : Prop :=
  (a = none ∧ len = 0 ∧ cap = 0 ∧ zs = []) ∨
  ∃ x, a = some x ∧ len ≤ cap ∧ cap ≤ maxLen ∧ zs.length = cap ∧ (∀ i, i < zs.length → w.cell? (x.add i) = some (.int k (zs.getD i 0))) ∧ ∀ n ∈ zs, (Lit.int k n).wf = true

/-- Four things, one by one. -/
theorem list4 {α : Type} (l : List α) (h : (⟨l⟩ : Array α).size = 4) : ∃ a b c d, l = [a, b, c, d] := by
  match l, h with
  | [a, b, c, d], _ => exact ⟨a, b, c, d, rfl⟩

theorem plain_laid (W : World) (h : laidMetH Tryz.prog Rows.ticketAgainRow.laid W) : laidMet Tryz.prog Rows.ticketAgainRow.laid W := by
  rw [MakeChecks.laidMetH_plain _ _ _ (by kernel_rfl)] at h; exact h

set_option maxHeartbeats 400000 in
set_option maxRecDepth 100000 in
theorem lifted (os : Os) (started : os.Started) (H : Type) (enc : TypeId × Value → H) :
    ReturnsInHanded {} Tryz.checked os 4 .any (fun w args => (Rows.ticketAgainSpec.pre enc Tryz.prog Tryz.f4 [] false w args ∧ laidMetH Tryz.prog Rows.ticketAgainRow.laid w) ∧ sizedMet enc Tryz.prog Tryz.f4 (OpenSpec.ofChange Rows.ticketAgainSpec) false w args) (Rows.ticketAgainSpec.post enc Tryz.prog Tryz.f4 false true false false) := by
  refine returnsInHanded_of_calls (C := Tryz.checked) own started (by kernel_rfl)
    (ChangeSpec.witness_shaped (enc := enc) (C := Tryz.checked) (os := os) (X := fun w _ => laidMetH Tryz.prog Rows.ticketAgainRow.laid w) false (World.laidAll Tryz.prog os Rows.ticketAgainRow.laid) #[.string ⟨#[]⟩] 8 (World.laidAll_os _ _ _)
      (World.shaped_of_ZipB (by kernel_rfl) (by kernel_rfl)) (by kernel_rfl) (by kernel_rfl) (by kernel_rfl)
      (by rw [MakeChecks.laidMetH_plain _ _ _ (by kernel_rfl)]; exact laidMet_laidAll _ (by kernel_rfl) (by kernel_rfl))) ?_
  intro w0 tape inp _ hsh _ hok hpre _
  obtain ⟨_, _, _, fn, hfn, _, _, _, _, hval1⟩ := hok
  obtain rfl : Tryz.f4 = fn := Option.some.inj (Tryz.func4.symm.trans hfn)
  obtain ⟨⟨⟨ds, gs, before, hW0, -⟩, hX⟩, -⟩ := hpre
  have hW := DataW.Whole.of_heap (w' := w0.forCall tape inp) (by rfl) hW0
  have hLH : laidMetH Tryz.prog Rows.ticketAgainRow.laid (w0.forCall tape inp) := hX.of_heap (by rfl)
  clear hW0 hX
  obtain ⟨W, hWd⟩ : ∃ W, w0.forCall tape inp = W := ⟨_, rfl⟩
  obtain ⟨args, hargs⟩ : ∃ args, inp.args = args := ⟨_, rfl⟩
  obtain ⟨base, hbase⟩ : ∃ base, w0.heap.size = base := ⟨_, rfl⟩
  rw [hWd] at hsh hval1 hW hLH ⊢
  rw [hargs] at hval1 hW ⊢
  rw [hbase] at hval1
  have hval0 : ∀ (j : Nat) t v, Tryz.f4.params[j]? = some t → args[j]? = some v → Value.okWide Tryz.prog W .any base t v := hval1
  clear hWd hargs hbase hval1 hfn
  have hL := plain_laid W hLH
  refine (show Calls Tryz.prog 4 args W fun e W' => ∃ v, e = .returned v ∧ Rows.ticketAgainSpec.post enc Tryz.prog Tryz.f4 false true false false W args v W' from ?_).mono fun e W' ⟨v, he, hp⟩ => by
    subst he
    exact ChangeSpec.post_blind hp
  have hval : ∀ (j : Nat) t v, Tryz.f4.params[j]? = some t → args[j]? = some v → Value.okWide Tryz.prog W .any base t v := hval0
  have hW' := hW
  obtain ⟨p, q, hA0, hV, rfl, hfz, hnd⟩ := hW
  have hA : DataW.TrodAll enc Tryz.prog W 0 (fun _ => true) true Tryz.f4.params.toList args.toList ds p := hA0
  rw [Tryz.params4] at hA hval
  obtain ⟨v0, vs0, d0, ds0, p0, q0, hargs, rfl, rfl, h0, r0⟩ := trodAll_cons hA
  obtain ⟨rfl, rfl, rfl⟩ := trodAll_nil r0
  obtain rfl : args = #[v0] := by cases args; simp_all
  obtain ⟨rfl, rfl⟩ := trodVars_none hV
  obtain ⟨a0, rfl, rfl, rfl, w0⟩ := open_string Tryz.underlying9 (hval 0 9 v0 rfl rfl) h0
  clear hA0 hval0
  refine (walkTicketAgain a0 W w0 (⟨good_of hL 2 4 5 rfl rfl rfl, mx_of hsh⟩)).mono fun e W' ⟨he, bel⟩ => ?_
  subst he
  exact ⟨_, rfl, _, _, _, [], _, [], hW', trodAll_mk1 (shut_bool Tryz.underlying4 _), (trodAll_cons_mk (shut_string Tryz.underlying9 w0) trodAll_mk0), rfl, bel.frame _, fun h => by cases h⟩

theorem over : Rows.ticketAgainRow.holds Tryz.pinned (OpenSpec.ofChange Rows.ticketAgainSpec) :=
  OpenClaim.holds_of_wide 4 Tryz.f4 rfl rfl rfl rfl rfl rfl rfl ⟨rfl, rfl, rfl, rfl, rfl⟩ rfl rfl rfl rfl rfl (by kernel_rfl) Tryz.func4 (by kernel_rfl)
    (of_decide_eq_true (by kernel_rfl)) (by unfold Func.isWrapper; first | (rw [if_pos (by decide +kernel)]; kernel_rfl) | (rw [if_neg (by decide +kernel)]; exact ⟨rfl, rfl⟩))
    (fun os started H enc _ => lifted os started H enc)

theorem proved : Rows.TicketAgainCardSaid :=
  Claim7.holds_tied_plain_at .later [] [.data, .data, .data, .data, .sentinel, .sentinel, .pinned] true (true, "5ecdc2060be6880689da8bfad47a27846b9e028025d82123d223eab1dd2d9491") true
    over (fun _ h => by cases h) (by kernel_rfl) (fun _ h => by cases h) ticketAgain_row_tie rfl ⟨rfl, rfl⟩ (by kernel_rfl) rfl
    (fun f fn hf hfn => by
      obtain rfl : f = 4 := Option.some.inj ((show Tryz.prog.funcNamed "gatherum/gatherumlaw16.TicketAgain" = some 4 by kernel_rfl).symm.trans hf) |>.symm
      obtain rfl : fn = Tryz.f4 := (Option.some.inj (Tryz.func4.symm.trans hfn)).symm
      exact ⟨by kernel_rfl, fun j t ht => by
        rw [Tryz.params4] at ht
        have hm : t ∈ [9] := by have := Array.mem_of_getElem? ht; simpa using this
        have hall : ([9].all fun u => !Tryz.prog.wantsStandIn u) = true := by kernel_rfl
        exact (show Tryz.prog.wantsStandIn t = false by simpa using List.all_eq_true.1 hall t hm)⟩)
    (by kernel_rfl)
#print axioms proved
end Go.Proofs.YtenigkjonegdmaaGreatDoor.ticketAgain
