/- Part 11 of the texts that the proofs of this seat share: TicketRead3, TicketRead4, LexLines, TicketParse, TicketBuild, BoundsGet, TicketParts, TicketPart. -/
import Derived.Test.YtenigkjonegdmaaGreatDoorPart10
import Derived.Test.YtenigkjonegdmaaGreatDoorPart7
import Derived.Test.YtenigkjonegdmaaGreatDoorPart2
import Derived.Test.YtenigkjonegdmaaGreatDoorPart3
import Derived.Test.YtenigkjonegdmaaGreatDoorPart4
import Derived.Test.YtenigkjonegdmaaGreatDoorPart1
import Derived.Shelf.Strings.BuilderK
import Derived.Test.YtenigkjonegdmaaGreatDoorPart9
import Derived.Test.YtenigkjonegdmaaGreatDoorPart8
/- What ticket's read answers, of a key that was met ahead. -/
namespace Go.Proofs.YtenigkjonegdmaaGreatDoor
open Go.RowKit
set_option linter.unusedVariables false
set_option linter.unusedSimpArgs false

theorem key_short1000 (k : Ky) (h : k ∈ keyL) : k.w.length ≤ 1000 := by
  have := (key_places k h).2.2.2.2
  omega

set_option maxHeartbeats 2000000 in
set_option maxRecDepth 100000 in
theorem read_twice (G : Nat → Prop) (M : Nat) (cs : List Value) (j : Jb) (met : List (List UInt8)) (s x : List UInt8) (l : List (List UInt8)) (w : World) (h : JobG G w cs j) (hM : MetW w M met) (hs : s.length ≤ 900000) (hf : fieldsL s = some (x :: l)) (k : Ky) (hk : keyL.find? (fun k => decide (k.w = x)) = some k) (hm : k.w ∈ met) :
    Calls Tryz.prog 30 #[.agg cs.toArray, .map (some M), .string (tx s)] w (GivesRd G M (3, zeroJ, met) w) := by
  obtain ⟨hX, hR, hB⟩ := two_jobs cs w h.length
  have HL := Lib.hid h.length
  have KF := fun w => lexFields_row (tx s) w (by rw [tx_size]; omega)
  rw [data_tx, hf] at KF
  have HF := Lib.hid KF
  have KK := fun w => find_any x w
  rw [hk] at KK
  have HK := Lib.hid KK
  have hkey := keyOf_tx (key_short1000 k (List.mem_of_find?_eq_some hk))
  have HR := Lib.hid hR; have HB := Lib.hid hB; have HM := Lib.hid (hM.up hB)
  have hMl := hM.lt
  obtain ⟨w2, hw2⟩ : ∃ w2, (w.alloc (.cells cs.toArray 29)).alloc (.cells zeroL.toArray 29) = w2 := ⟨_, rfl⟩
  rw [hw2] at HR HB HM
  have HW := Lib.hid hw2
  have hll := fieldsL_length hf
  generalize tx s = S at *
  clear hX hR hB h hM hf KF hw2 KK hk
  go_enter Tryz.func30, Tryz.ntmps30
  go_wp2_with (refine wpList_alloc_to rfl 29 rfl _ _ (job_alloc _) ?_; simp only [Act.put, HW.out, World.size_alloc, List.setIfInBounds_toArray, List.set_cons_succ, List.set_cons_zero])
  refine (HF.out _).mono ?_
  rintro e w3 ⟨v, rfl, hr, hb⟩
  obtain ⟨a, c, rfl, hT⟩ := hr.texF
  obtain ⟨g, o, rfl, -, hc, hcap, hmax⟩ := hT.resolve_left (by simp)
  have c0 := hc 0 x rfl
  have HR3 := Lib.hid (HR.out.later (by decide) hb); have HB3 := Lib.hid (up_trans HB.out hb); have HM3 := Lib.hid (HM.out.up hb)
  simp only [Option.isSome_some, Option.getD_some, List.length_cons] at hcap hll ⊢
  obtain ⟨n, hn⟩ : ∃ n, l.length = n := ⟨_, rfl⟩
  rw [hn] at hcap hll ⊢
  rw [Nat.add_zero] at c0
  obtain ⟨X, hX⟩ : ∃ X, tx x = X := ⟨_, rfl⟩
  rw [hX] at c0 HK
  have z1 : (((n + 1 : Nat) : Int) == 0) = false := by simp; omega
  have z2 : (0 : Int) < ((n + 1 : Nat) : Int) := by omega
  clear hb hr HR HB HM hT hc hn hX
  go_wp2_with fail
  refine (HK.out _).mono ?_
  rintro e w4 ⟨rfl, hb⟩
  simp only [Option.isSome_some, Option.getD_some]
  have hb2 := up_alloc hb (.cells (keyV k).toArray 51)
  have hKX := Bx.new w4 51 (keyV k)
  have HR4 := Lib.hid (HR3.out.later (by decide) hb2); have HB4 := Lib.hid (up_trans HB3.out hb2); have HM4 := Lib.hid (HM3.out.up hb2)
  obtain ⟨nn, D, hown, -, -, hD⟩ := HM4.out
  have hh := hD k.w
  rw [decide_eq_true hm] at hh
  have HO := Lib.hid hown
  clear hb hb2 c0 HR3 HB3 HM3 hown hD hm
  obtain ⟨kw, kd, kf, klo, khi⟩ := k
  unfold keyV at *
  simp only at *
  generalize (kf : Int) = kf' at *
  generalize (klo : Int) = klo' at *
  generalize (khi : Int) = khi' at *
  obtain ⟨W, hW⟩ : ∃ W, tx kw = W := ⟨_, rfl⟩
  rw [hW] at hKX HR4 HB4 HM4 HO hkey ⊢
  clear hW
  have q0 := hKX.cell 0 rfl
  have hb3 := up_alloc (Below.refl (w4.alloc (.cells #[.string W, .int .i64 kd, .int .i64 kf', .int .i64 klo', .int .i64 khi'] 51)).heap.size (w4.alloc (.cells #[.string W, .int .i64 kd, .int .i64 kf', .int .i64 klo', .int .i64 khi'] 51))) (.cells #[] 94)
  have HR5 := Lib.hid (HR4.out.later (by decide) hb3); have HB5 := Lib.hid (up_trans HB4.out hb3); have HM5 := Lib.hid (HM4.out.up hb3)
  clear hb3 hKX
  go_wp2_with (first
    | (at_lookup; refine wpList_lookup_own_unit _ rfl _ _ 69 rfl 9 94 Tryz.keyText Tryz.underlying69 (Tryz.zeroUnit _) M nn D rfl HO.out _ _ rfl hkey ?_)
    | (refine wpList_zero_job rfl rfl ?_; simp only [Act.put, List.setIfInBounds_toArray, List.set_cons_succ, List.set_cons_zero])
    | (refine wpList_store_job rfl _ _ rfl (w.heap.size + 1) rfl zeroL zeroL rfl HR5.out rfl rfl zeroL_one ?_; simp only [Act.put]))
  have HS := HR5.out.sets (ws := zeroL) rfl
  exact end_read (r := (3, zeroJ, met)) Tryz.results30 zeroL _ (by rfl) (by rfl) (by rfl) HS zeroL_job (metW_sets HM5.out (by omega) _) (But.of (below_setCells (by omega) _ _ _ HB5.out))
end Go.Proofs.YtenigkjonegdmaaGreatDoor
/- What ticket's read answers, of a new key. -/
namespace Go.Proofs.YtenigkjonegdmaaGreatDoor
open Go.RowKit
set_option linter.unusedVariables false
set_option linter.unusedSimpArgs false

theorem mem_flatten_len {l : List (List UInt8)} {q : List UInt8} (h : q ∈ l) : q.length ≤ l.flatten.length := by
  induction l with
  | nil => cases h
  | cons a l ih =>
    rw [List.flatten_cons, List.length_append]
    rcases List.mem_cons.1 h with rfl | h
    · omega
    · have := ih h; omega
theorem rowT.own {w : World} {base : Nat} {v : Value} {ls : List (List UInt8)} (h : rowT w base v ls) (h0 : ls ≠ []) : ∃ g c, v = .slice (some ⟨g, 0, none⟩) ls.length c ∧ base ≤ g ∧ (∀ i l, ls[i]? = some l → w.cell? ⟨g, i, none⟩ = some (.string (tx l))) ∧ ls.length ≤ c ∧ c ≤ maxLen := by
  rcases h.2 with ⟨rfl, h1⟩ | ⟨g, cap, cur, rfl, hb, hg, hcap, hmax, hsz, htk⟩
  · exact absurd (List.eq_nil_of_length_eq_zero h1) h0
  · refine ⟨g, cap, rfl, hb, fun i l hi => ?_, by omega, by omega⟩
    have := h.cells (g := g) rfl i (.string (tx l)) (by simp [hi])
    rw [Addr.add_lit, Nat.zero_add] at this
    exact this

theorem but_grown {M : Nat} {w w5 w6 : World} (h : But M M w w5) (g : w5.grownBy w6 (some M)) : But M M w w6 :=
  ⟨g.os.trans h.os, g.tape.trans h.tape, g.output.trans h.output, Nat.le_trans h.size g.size, fun k hk h1 h2 => (g.block k (Nat.lt_of_lt_of_le hk h.size) (fun e => h1 (Option.some.inj e))).trans (h.block k hk h1 h2)⟩
theorem but_new {M B : Nat} {w w7 : World} (h : But M M w w7) (hB : w.heap.size ≤ B) (ds : List Value) : But M M w (w7.setCells B 0 ds) := by
  have g := setCells_but B B 0 ds w7
  exact ⟨g.os.trans h.os, g.tape.trans h.tape, g.output.trans h.output, Nat.le_trans h.size g.size, fun k hk h1 h2 => (g.block k (Nat.lt_of_lt_of_le hk h.size) (by omega) (by omega)).trans (h.block k hk h1 h2)⟩
theorem grown_but {M : Nat} {w5 w6 : World} (g : w5.grownBy w6 (some M)) : But M M w5 w6 := but_grown (But.refl _ _ _) g
theorem but_box {M B : Nat} {w w' : World} {vs : List Value} (g : But M M w w') (h : Bx w B vs) (h0 : 0 < vs.length) (hB : B ≠ M) : Bx w' B vs := by
  refine ⟨fun j v hj => but_cell g (by simpa using hB) (h.1 j v hj), fun j => ?_⟩
  have hlt := h.lowE h0
  have := h.2 j
  unfold World.frozen? at *
  simp only at *
  rw [g.block B hlt hB hB]
  exact this
theorem met_put {D : DataW Unit} {met : List (List UInt8)} (h1 : Maps.IsMap D) (h2 : ∀ x : List UInt8, Maps.has D (.string x) = decide (x ∈ met)) (kw : List UInt8) (d : DataW Unit) (y : List UInt8) : Maps.has (D.put (.string kw) d) (.string y) = decide (y ∈ kw :: met) := by
  by_cases e : y = kw
  · subst e
    rw [Maps.has_put_same (k := .string y) h1 trivial]
    simp
  · rw [Maps.has_put_other (by intro h; injection h with h; exact e h), h2]
    simp [e]
/-- A map's block is no variable's: these stay while it is written. -/
theorem var_but {P : Program} {w w' : World} {name : String} {cs : Array Value} {M : Nat} (h : w.var? P name = some cs) (hb : But M M w w') (hM : ∃ es clock, w.heap[M]? = some (.map es clock)) : w'.var? P name = some cs := by
  obtain ⟨es, clock, hM⟩ := hM
  unfold World.var? at *
  cases hg : P.globalNamed name with
  | none => simp [hg] at h
  | some g =>
    simp only [hg, Option.bind_some] at h ⊢
    by_cases e : g = M
    · subst e
      rw [hM] at h
      simp at h
    · have hlt : g < w.heap.size := by
        rcases Nat.lt_or_ge g w.heap.size with h' | h'
        · exact h'
        · simp [Array.getElem?_eq_none h'] at h
      rw [hb.block g hlt e e]
      exact h
theorem goodM_but {w w' : World} {M : Nat} {met : List (List UInt8)} (h : GoodM w) (hb : But M M w w') (hM : MetW w M met) : GoodM w' := by
  obtain ⟨n, D, ⟨es, clock, hM, -⟩, -⟩ := hM
  have hM' : ∃ es clock, w.heap[M]? = some (.map es clock) := ⟨es, clock, hM⟩
  obtain ⟨⟨h1, ⟨t1, p1, h2⟩, t2, p2, h3⟩, m, h4⟩ := h
  refine ⟨⟨var_but h1 hb hM', ⟨t1, p1, var_but h2 hb hM'⟩, t2, p2, var_but h3 hb hM'⟩, m, but_cell hb ?_ h4⟩
  intro e
  simp only at e
  unfold World.cell? at h4
  simp only [e, hM] at h4
  cases h4

set_option maxHeartbeats 2000000 in
set_option maxRecDepth 100000 in
theorem read_take (G : Nat → Prop) (M : Nat) (cs : List Value) (j : Jb) (met : List (List UInt8)) (s x : List UInt8) (l : List (List UInt8)) (w : World) (h : JobG G w cs j) (hM : MetW w M met) (hs : s.length ≤ 900000) (hf : fieldsL s = some (x :: l)) (k : Ky) (hk : keyL.find? (fun k => decide (k.w = x)) = some k) (hm : k.w ∉ met) (hGM : ¬ G M) (hml : met.length ≤ 1000000) (hjl : j.f.l.length ≤ 1000000) (hjls : j.ls.length ≤ 1000000) (hg : GoodM w) :
    Calls Tryz.prog 30 #[.agg cs.toArray, .map (some M), .string (tx s)] w (GivesRd G M ((takeM k l j).1, (takeM k l j).2, k.w :: met) w) := by
  obtain ⟨hX, hR, hB⟩ := two_jobs cs w h.length
  have hJ := h.old.up hB
  have hz2 : ((w.alloc (.cells cs.toArray 29)).alloc (.cells zeroL.toArray 29)).heap.size = w.heap.size + 2 := by rw [World.size_alloc, World.size_alloc]
  have HL := Lib.hid h.length
  have KF := fun w => lexFields_row (tx s) w (by rw [tx_size]; omega)
  rw [data_tx, hf] at KF
  have HF := Lib.hid KF
  have KK := fun w => find_any x w
  rw [hk] at KK
  have HK := Lib.hid KK
  have hkey := keyOf_tx (key_short1000 k (List.mem_of_find?_eq_some hk))
  have HX := Lib.hid hX; have HR := Lib.hid hR; have HB := Lib.hid hB; have HM := Lib.hid (hM.up hB); have HJ := Lib.hid hJ; have HGd := Lib.hid (hg.below hB)
  have HT := Lib.hid (fun a c w1 (h1 : JobG (fun b => (G b ∧ b < w.heap.size) ∨ w.heap.size + 2 ≤ b) w1 cs j) (h2 : TxG (fun b => (G b ∧ b < w.heap.size) ∨ w.heap.size + 2 ≤ b) w1 a c l) (g1 : GoodM w1) => take_any _ (List.mem_of_find?_eq_some hk) cs j a c l w1 h1 h2 (fun q hq => by
    have := fieldsL_octets hf
    have := mem_flatten_len (List.mem_cons_of_mem x hq)
    omega) hjl hjls g1)
  have hMl := hM.lt
  obtain ⟨R, hRR⟩ : ∃ R, takeM k l j = R := ⟨_, rfl⟩
  rw [hRR] at HT ⊢
  clear hRR
  obtain ⟨w2, hw2⟩ : ∃ w2, (w.alloc (.cells cs.toArray 29)).alloc (.cells zeroL.toArray 29) = w2 := ⟨_, rfl⟩
  rw [hw2] at HX HR HB HM HJ HGd hz2
  have HW := Lib.hid hw2
  have hll := fieldsL_length hf
  generalize tx s = S at *
  clear hX hR hB h hM hf KF hw2 KK hk hJ hg hjl hjls
  go_enter Tryz.func30, Tryz.ntmps30
  go_wp2_with (refine wpList_alloc_to rfl 29 rfl _ _ (job_alloc _) ?_; simp only [Act.put, HW.out, World.size_alloc, List.setIfInBounds_toArray, List.set_cons_succ, List.set_cons_zero])
  refine (HF.out _).mono ?_
  rintro e w3 ⟨v, rfl, hr, hb⟩
  obtain ⟨g, c, rfl, hgb, hc, hcap, hmax⟩ := hr.own (by simp)
  have c0 := hc 0 x rfl
  have HX3 := Lib.hid (HX.out.later (by rw [HL.out]; decide) hb); have HR3 := Lib.hid (HR.out.later (by decide) hb); have HB3 := Lib.hid (up_trans HB.out hb); have HM3 := Lib.hid (HM.out.up hb); have HJ3 := Lib.hid (HJ.out.up hb); have HG3 := Lib.hid (HGd.out.below hb)
  simp only [Option.isSome_some, Option.getD_some, List.length_cons] at hc hcap hll ⊢
  have HC3 := Lib.hid hc
  obtain ⟨n, hn⟩ : ∃ n, l.length = n := ⟨_, rfl⟩
  rw [hn] at hcap hll HT ⊢
  obtain ⟨X, hX⟩ : ∃ X, tx x = X := ⟨_, rfl⟩
  rw [hX] at c0 HK
  have z1 : (((n + 1 : Nat) : Int) == 0) = false := by simp; omega
  have z2 : (0 : Int) < ((n + 1 : Nat) : Int) := by omega
  rw [hz2] at hgb
  obtain ⟨a', hsl, ha'⟩ := slice_tail g n c hcap hmax
  have Hn := Lib.hid hn
  have Ha := Lib.hid ha'
  have Hcm := Lib.hid (And.intro hcap hmax)
  clear hb hr HX HR HB HM hc hn hX HJ HGd ha' hcap hmax
  go_wp2_with fail
  refine (HK.out _).mono ?_
  rintro e w4 ⟨rfl, hb⟩
  simp only [Option.isSome_some, Option.getD_some]
  have hsz4 : w.heap.size + 1 < w4.heap.size := Nat.lt_of_lt_of_le (HR3.out.lowE (by decide)) hb.size
  have hb2 := up_alloc hb (.cells (keyV k).toArray 51)
  have hKX := Bx.new w4 51 (keyV k)
  have HX4 := Lib.hid (HX3.out.later (by rw [HL.out]; decide) hb2); have HR4 := Lib.hid (HR3.out.later (by decide) hb2); have HB4 := Lib.hid (up_trans HB3.out hb2); have HM4 := Lib.hid (HM3.out.up hb2); have HJ4 := Lib.hid (HJ3.out.up hb2); have HG4 := Lib.hid (HG3.out.below hb2); have HC4 := Lib.hid (fun i y (hy : (x :: l)[i]? = some y) => bl_cell hb2 (HC3.out i y hy))
  obtain ⟨nn, D, hown, hnn, him, hD⟩ := HM4.out
  have hh := hD k.w
  rw [decide_eq_false hm] at hh
  have HD := Lib.hid (And.intro him hD)
  have HO := Lib.hid hown
  clear hb hb2 c0 HX3 HR3 HB3 HM3 HJ3 HG3 HC3 hown hD him hm
  obtain ⟨kw, kd, kf, klo, khi⟩ := k
  unfold keyV at *
  simp only at *
  generalize (kf : Int) = kf' at *
  generalize (klo : Int) = klo' at *
  generalize (khi : Int) = khi' at *
  obtain ⟨W, hW⟩ : ∃ W, tx kw = W := ⟨_, rfl⟩
  rw [hW] at hKX HX4 HR4 HB4 HM4 HO hkey HJ4 HG4 HC4 HT ⊢
  clear hW
  have q0 := hKX.cell 0 rfl
  have hb3 := up_alloc (Below.refl (w4.alloc (.cells #[.string W, .int .i64 kd, .int .i64 kf', .int .i64 klo', .int .i64 khi'] 51)).heap.size (w4.alloc (.cells #[.string W, .int .i64 kd, .int .i64 kf', .int .i64 klo', .int .i64 khi'] 51))) (.cells #[] 94)
  have HX5 := Lib.hid (HX4.out.later (by rw [HL.out]; decide) hb3); have HR5 := Lib.hid (HR4.out.later (by decide) hb3); have HB5 := Lib.hid (up_trans HB4.out hb3); have HJ5 := Lib.hid (HJ4.out.up hb3); have HG5 := Lib.hid (HG4.out.below hb3); have HM5 := Lib.hid (HM4.out.up hb3); have HC5 := Lib.hid (fun i y (hy : (x :: l)[i]? = some y) => bl_cell hb3 (HC4.out i y hy)); have HK5 := Lib.hid (hKX.up hb3)
  have hO5 := Lib.hid (HO.out.alloc (.cells #[] 94))
  clear hb3 hKX HX4 HR4 HB4 HM4 HJ4 HG4 HC4
  go_wp2_with (first
    | (at_lookup; refine wpList_lookup_own_unit _ rfl _ _ 69 rfl 9 94 Tryz.keyText Tryz.underlying69 (Tryz.zeroUnit _) M nn D rfl HO.out _ _ rfl hkey ?_)
    | (at_mapUpdate; refine wpList_mapUpdate_own _ rfl _ _ _ 69 rfl 9 94 Tryz.keyText Tryz.underlying69 (unitElem (H := Unit)) M nn D rfl hO5.out (by unfold maxLen; omega) _ _ _ rfl rfl hkey _ [] unitElem_mk ?_))
  intro w6 hown6 hgrow6
  generalize (w4.alloc (.cells #[.string W, .int .i64 kd, .int .i64 kf', .int .i64 klo', .int .i64 khi'] 51)).alloc (.cells #[] 94) = w5 at *
  have g6 := grown_but hgrow6
  have HN6 := Lib.hid (but_grown (But.of HB5.out) hgrow6)
  have hk6 := fun (p : Addr) (hp : p.block ≠ M) (v : Value) (hv : w5.cell? p = some v) => but_cell g6 hp hv
  have HM6 := Lib.hid (show MetW w6 M (kw :: met) from ⟨nn + 1, _, hown6, by rw [List.length_cons]; omega, HD.out.1.put _ _, fun y => met_put HD.out.1 HD.out.2 kw _ y⟩)
  have HX6 := Lib.hid (but_box g6 HX5.out (by rw [HL.out]; decide) (by omega)); have HR6 := Lib.hid (but_box g6 HR5.out (by decide) (by omega))
  have hK6 := but_box g6 HK5.out (by simp) (show w4.heap.size ≠ M by omega)
  have HJ6 := Lib.hid (((HJ5.out.keep (B := M) (by intro h; exact hGM h.1) hk6)).mono (G' := fun b => (G b ∧ b < w.heap.size) ∨ w.heap.size + 2 ≤ b) (fun b h => .inl h))
  have HG6 := Lib.hid (goodM_but HG5.out g6 HM5.out)
  have HT6 := Lib.hid (show TxG (fun b => (G b ∧ b < w.heap.size) ∨ w.heap.size + 2 ≤ b) w6 a' (c - 1) l from by
    by_cases h0 : l = []
    · exact .inl h0
    · have hn0 : n ≠ 0 := by rw [← Hn.out]; exact fun e => h0 (List.eq_nil_of_length_eq_zero e)
      refine .inr ⟨g, 1, Ha.out hn0, .inr (by omega), fun i y hy => hk6 _ (by simp only; omega) _ ?_, ?_, ?_⟩
      · rw [Nat.add_comm 1 i]
        exact HC5.out (i + 1) y hy
      · have := Hcm.out.1; rw [Hn.out]; omega
      · have := Hcm.out.2; omega)
  have HKx := Lib.hid hK6
  clear hK6 hk6 g6 hgrow6 hown6 q0 HX5 HR5 HB5 HJ5 HG5 HK5 hO5 HO HM5 HC5 HF HK
  go_wp2_with fail
  have RG := Lib.hid (laterB_range (R := w.heap.size + 1) HX6.out (by omega))
  have j0 := fun u : LaterB (w.heap.size + 1) w6 => u.cell (by simp only; omega) (HKx.out.cell 0 rfl)
  have j1 := fun u : LaterB (w.heap.size + 1) w6 => u.cell (by simp only; omega) (HKx.out.cell 1 rfl)
  have j2 := fun u : LaterB (w.heap.size + 1) w6 => u.cell (by simp only; omega) (HKx.out.cell 2 rfl)
  have j3 := fun u : LaterB (w.heap.size + 1) w6 => u.cell (by simp only; omega) (HKx.out.cell 3 rfl)
  have j4 := fun u : LaterB (w.heap.size + 1) w6 => u.cell (by simp only; omega) (HKx.out.cell 4 rfl)
  refine wp_region_calls_b (w.heap.size + 1) [([0, 1, 2, 3], 4), ([5, 6], 7)] [8] (by kernel_rfl) (by kernel_rfl) rfl (fun _ _ d _ _ h => by cases d <;> exact h) ?_
  refine walkC_take _ rfl (fun K0 hK0 => ?_)
  simp only [List.map_cons, List.map_nil, List.getD_cons_zero, List.getD_cons_succ]
  repeat (first
    | (go_big_quiet_want; refine quiet_load_job _ rfl w.heap.size rfl cs HL.out RG.out ?_; simp only [Act.put, List.setIfInBounds_toArray, List.set_cons_succ, List.set_cons_zero]; go_big_quiet_on)
    | go_big_quiet_step (fail))
  refine wpQuiet_nil (hK0.out _ (fun K hK => ?_))
  go_simp
  clear j0 j1 j2 j3 j4
  refine (HT.out a' (c - 1) _ (HJ6.out.up (up_drew (Below.refl _ _))) (HT6.out.up (up_drew (Below.refl _ _))) (HG6.out.below (up_drew (Below.refl _ _)))).mono ?_
  rintro e w7 ⟨ds, rfl, hJ7, hb⟩
  have hb2 := up_trans (up_drew (Below.refl _ w6)) hb
  have C7 := Lib.hid (but_next (drew_but (w.heap.size + 1) (w.heap.size + 1) w6) hb)
  have HR7 := Lib.hid (HR6.out.later (by decide) hb2); have HN7 := Lib.hid (but_next HN6.out hb2); have HJ7 := Lib.hid hJ7; have HM7 := Lib.hid (HM6.out.up hb2)
  have hs6 : w.heap.size + 1 < w6.heap.size := HR6.out.lowE (by decide)
  refine hK.out _ _ ⟨⟨w7, C7.out⟩, rfl⟩ ?_
  clear hK K hK0 K0 hb hb2 hJ7
  try simp only [List.setIfInBounds_toArray, List.set_cons_zero, List.set_cons_succ]
  refine walkC_take _ rfl (fun K0 hK0 => ?_)
  simp only [List.map_cons, List.map_nil, List.getD_cons_zero, List.getD_cons_succ]
  repeat (go_big_quiet_step (fail))
  refine wpQuiet_nil (hK0.out _ (fun K hK => ?_))
  rw [if_pos (by rfl)]
  refine wp_store_job _ _ rfl (w.heap.size + 1) rfl zeroL ds rfl HR7.out rfl HJ7.out.length HJ7.out.one ?_
  refine hK.out _ _ ⟨⟨_, but_sets C7.out ds⟩, rfl⟩ ?_
  clear hK K hK0 K0
  simp only [Act.put, List.setIfInBounds_toArray, List.set_cons_zero, List.set_cons_succ]
  refine walkC_last (fun K0 hK0 => ?_)
  simp only [List.map_cons, List.map_nil, List.getD_cons_zero, List.getD_cons_succ]
  repeat (go_big_quiet_step (fail))
  refine wpQuiet_nil (hK0.out _ ?_)
  clear hK0 K0
  go_wp2
  have HS := HR7.out.sets (ws := ds) (by rw [HJ7.out.length]; rfl)
  have g1 := (HJ7.out.keep (B := w.heap.size + 1) (by have : w6.drew.heap.size = w6.heap.size := rfl; omega) (keep_sets _ (w.heap.size + 1) 0 ds)).mono (G' := fun b => G b ∨ w.heap.size ≤ b) (fun b h => by
    have : w6.drew.heap.size = w6.heap.size := rfl
    rcases h with (h | h) | h
    · exact .inl h.1
    · exact .inr (by omega)
    · exact .inr (by omega))
  exact end_read (r := (R.1, R.2, kw :: met)) Tryz.results30 ds (w.heap.size + 1) (by rfl) (by rfl) (by rfl) HS g1 (metW_sets HM7.out (by omega) _) (but_new HN7.out (by omega) ds)
end Go.Proofs.YtenigkjonegdmaaGreatDoor
/- What the document's own Same, and lex.Lines, answer. -/
namespace Go.Proofs.YtenigkjonegdmaaGreatDoor
open Go.RowKit
set_option linter.unusedVariables false

set_option maxHeartbeats 1000000 in
/-- Of a list of texts twice, Same answers true. -/
theorem texts_same {w : World} {va vb : Value} {ls : List (List UInt8)} (ha : TxS w va ls) (hb : TxS w vb ls) (hl : ls.length ≤ 1000000) :
    Calls Tryz.prog 35 #[va, vb] w fun e w' => e = .returned (.bool true) ∧ Below w.heap.size w w' := by
  obtain ⟨a, ca, rfl, ha⟩ := ha
  obtain ⟨b, cb, rfl, hb⟩ := hb
  have HA := Lib.hid ha; have HB := Lib.hid hb
  clear ha hb
  obtain ⟨m, hm⟩ : ∃ m, ls.length = m := ⟨_, rfl⟩
  have HM := Lib.hid hm
  rw [hm] at hl ⊢
  clear hm
  go_enter Tryz.func35, Tryz.ntmps35
  go_wp2
  go_loopw [5] (fun i wr => ∃ k : Nat, k ≤ m ∧ i = .int .i64 (k : Int) ∧ ∃ u : Later w, wr = u.now) (fun i _ => m - (intOf i).toNat)
  case atStart => exact ⟨0, by omega, by go_num, ⟨w, Below.refl _ _⟩, rfl⟩
  case round =>
    obtain ⟨k, hk, rfl, u, rfl⟩ := hrel
    by_cases hlt : k < m
    · obtain ⟨x, hx⟩ : ∃ x, ls[k]? = some x := ⟨ls[k]'(by rw [HM.out]; exact hlt), List.getElem?_eq_getElem _⟩
      obtain h | ⟨g1, rfl, h1, _⟩ := HA.out
      · have := HM.out; rw [h] at this; simp at this; omega
      obtain h | ⟨g2, rfl, h2, _⟩ := HB.out
      · have := HM.out; rw [h] at this; simp at this; omega
      have c1 := fun u : Later w => u.cell (h1 k x hx)
      have c2 := fun u : Later w => u.cell (h2 k x hx)
      generalize tx x = p at *
      have z0 : (0 : Int) ≤ (k : Int) := by omega
      have z1 : (k : Int) < (m : Int) := by omega
      clear h1 h2 hx
      go_wp2
      refine wp_region_later (by kernel_rfl) (by kernel_rfl) ?_
      repeat (go_big_quiet_step (fail))
      refine wpQuiet_nil ?_
      rintro _ ⟨u2, rfl⟩
      clear c1 c2
      go_wp2
      go_roundw
      case rel => exact ⟨k + 1, by omega, by go_num, u2, rfl⟩
      case measure => simp [intOf]; omega
    · have hk2 : m ≤ k := by omega
      go_wp2
      go_ret
      exact ⟨rfl, u.up⟩

def LinesRel (s : ByteArray) (w : World) (l f i : Value) (wr : World) : Prop :=
  ∃ (k from_ : Nat) (out : List (List UInt8)), k ≤ s.size ∧ from_ ≤ k ∧ out.length ≤ k ∧ i = .int .i64 (k : Int) ∧ f = .int .i64 (from_ : Int) ∧ rowT wr w.heap.size l out ∧ Below w.heap.size w wr ∧
    out ++ linesM (s.data.toList.drop k) ((s.data.toList.take k).drop from_) = linesM s.data.toList []

set_option maxHeartbeats 1000000 in
theorem lexLines_any (s : ByteArray) (w : World) (hs : s.size ≤ 999999) :
    Calls Tryz.prog 29 #[.string s] w (GivesT w.heap.size (linesM s.data.toList []) w) := by
  go_enter Tryz.func29, Tryz.ntmps29
  go_wp2
  go_loopw [3, 4, 8] (fun l f i wr => LinesRel s w l f i wr) (fun _ _ i _ => s.size - (intOf i).toNat)
  case atStart => exact ⟨0, 0, [], Nat.zero_le _, Nat.le_refl _, Nat.le_refl _, rfl, rfl, rowT_nil _ _, Below.refl _ _, by simp⟩
  case round =>
    obtain ⟨k, f, out, hk, hf, ho, rfl, rfl, hrow, hb, hF⟩ := hrel
    have HR := Lib.hid hrow; have HB := Lib.hid hb; have HF := Lib.hid hF
    clear hrow hb hF
    by_cases hlt : k < s.size
    · have z1 : (k : Int) < (s.size : Int) := by omega
      have DO := Lib.hid (drop_octet hlt)
      have CO := Lib.hid (cur_octet hf hlt)
      obtain ⟨c, hc⟩ : ∃ c, s[k] = c := ⟨_, rfl⟩
      rw [hc] at DO CO
      have hx : ((s[k].toNat : Nat) : Int) = (c.toNat : Int) := by rw [hc]
      have e1 := oct_eq c 10
      rw [show (((10 : UInt8).toNat : Nat) : Int) = 10 from rfl] at e1
      generalize (c.toNat : Int) = x at *
      by_cases h10 : c = 10
      · have e2 : (x == 10) = true := by rw [e1]; simpa using h10
        obtain ⟨p, hp⟩ : ∃ p, s.extract f k = p := ⟨_, rfl⟩
        have HP := Lib.hid ((hp.symm).trans (tx_extract s f k))
        have hz : p.size ≤ 1000000000 := by
          rw [HP.out, tx_size, List.length_drop, List.length_take, size_data]; omega
        have KC := Lib.hid (clone_text p wr hz)
        clear e1 hc hz
        go_wp2_with fail
        refine KC.out.mono ?_
        rintro e w1 ⟨rfl, hb1⟩
        have HB1 := Lib.hid hb1
        clear hb1
        go_wp2_with (at_builtin; refine wpList_append_text rfl _ _ rfl w.heap.size _ out rfl (HR.out.up HB1.out) ?c1 p _ HP.out rfl ?c2 ?_)
        case c1 => have := HB1.out.size; have := HB.out.size; omega
        case c2 => omega
        intro v1 w2 h1 hb2
        have H1 := Lib.hid h1; have HB2 := Lib.hid hb2
        clear h1 hb2
        go_wp2
        go_roundw
        case rel =>
          refine ⟨k + 1, k + 1, out ++ [(s.data.toList.take k).drop f], by omega, Nat.le_refl _, by simp; omega, by go_num, by go_num, H1.out, (HB.out.trans (HB1.out.mono HB.out.size)).trans HB2.out, ?_⟩
          rw [cur_none, ← HF.out, DO.out, h10, lines_feed, List.append_assoc]
          rfl
        case measure => simp [intOf]; omega
      · have e2 : (x == 10) = false := by rw [e1]; simpa using h10
        clear e1 hc
        go_wp2
        go_roundw
        case rel =>
          refine ⟨k + 1, f, out, by omega, by omega, by omega, by go_num, rfl, HR.out, HB.out, ?_⟩
          rw [← HF.out, DO.out, lines_other _ _ h10, CO.out]
        case measure => simp [intOf]; omega
    · obtain rfl : k = s.size := by omega
      obtain ⟨p, hp⟩ : ∃ p, s.extract f s.size = p := ⟨_, rfl⟩
      have HP := Lib.hid ((hp.symm).trans (tx_extract s f s.size))
      have hz : p.size ≤ 1000000000 := by
        rw [HP.out, tx_size, List.length_drop, List.length_take, size_data]; omega
      have KC := Lib.hid (clone_text p wr hz)
      clear hz
      go_wp2_with fail
      refine KC.out.mono ?_
      rintro e w1 ⟨rfl, hb1⟩
      have HB1 := Lib.hid hb1
      clear hb1
      go_wp2_with (at_builtin; refine wpList_append_text rfl _ _ rfl w.heap.size _ out rfl (HR.out.up HB1.out) ?c3 p _ HP.out rfl ?c4 ?_)
      case c3 => have := HB1.out.size; have := HB.out.size; omega
      case c4 => omega
      intro v1 w2 h1 hb2
      have H1 := Lib.hid h1; have HB2 := Lib.hid hb2
      clear h1 hb2
      go_wp2
      go_ret
      refine ⟨v1, rfl, ?_, (HB.out.trans (HB1.out.mono HB.out.size)).trans HB2.out⟩
      rw [← HF.out, List.drop_of_length_le (by rw [size_data]; exact Nat.le_refl _)]
      exact H1.out
end Go.Proofs.YtenigkjonegdmaaGreatDoor
/- What ticket's read and Parse answer, of every text. -/
namespace Go.Proofs.YtenigkjonegdmaaGreatDoor
open Go.RowKit
set_option linter.unusedVariables false
set_option linter.unusedSimpArgs false

theorem read_any (G : Nat → Prop) (M : Nat) (cs : List Value) (j : Jb) (met : List (List UInt8)) (s : List UInt8) (w : World) (h : JobG G w cs j) (hM : MetW w M met) (hs : s.length ≤ 900000) (hGM : ¬ G M) (hml : met.length ≤ 1000000) (hjl : j.f.l.length ≤ 1000000) (hjls : j.ls.length ≤ 1000000) (hg : GoodM w) :
    Calls Tryz.prog 30 #[.agg cs.toArray, .map (some M), .string (tx s)] w (GivesRd G M (lineM met j s) w) := by
  cases hf : fieldsL s with
  | none =>
    rw [line_none hf]
    exact read_none G M cs j met s w h hM hs hf
  | some L =>
    cases L with
    | nil =>
      rw [line_blank hf]
      exact read_blank G M cs j met s w h hM hs hf
    | cons x l =>
      cases hk : keyL.find? (fun k => decide (k.w = x)) with
      | none =>
        rw [line_word hf hk]
        exact read_word G M cs j met s x l w h hM hs hf hk
      | some k =>
        by_cases hm : k.w ∈ met
        · rw [line_twice hf hk hm]
          exact read_twice G M cs j met s x l w h hM hs hf k hk hm
        · rw [line_take hf hk hm]
          exact read_take G M cs j met s x l w h hM hs hf k hk hm hGM hml hjl hjls hg
/-- A job's lists aren't long. -/
def ShortJ (j : Jb) : Prop := j.f.l.length ≤ 1000000 ∧ j.ls.length ≤ 1000000
theorem get_short {l : List (List UInt8)} {s : Sc} (h : getM l = some s) : s.l.length ≤ 6 := by
  unfold getM at h
  split at h
  · rename_i x hx
    obtain rfl := Option.some.inj h
    split at hx
    · exact (toldB_true (cat_told _ (find_some hx))).2.2.1
    · cases hx
  · split at h
    · rename_i y hy
      split at h
      · obtain rfl := Option.some.inj h
        exact (toldB_true (read_back hy).2).2.2.1
      · cases h
    · cases h
theorem take_short {k : Ky} (hk : k ∈ keyL) (l : List (List UInt8)) {j : Jb} (h : ShortJ j) : ShortJ (takeM k l j).2 := by
  have hp := key_places k hk
  have hz : ShortJ zeroJ := ⟨by simp [zeroJ, zeroSc], by simp [zeroJ]⟩
  unfold takeM titleM wordM schemeM lastM numbersM
  split
  · exact hz
  · rename_i hlen
    split
    · split
      · exact hz
      · split
        · exact hz
        · exact h
    · split
      · split
        · exact hz
        · exact h
      · split
        · split
          · exact hz
          · exact h
        · split
          · split
            · exact hz
            · rename_i hs
              have := get_short hs
              exact ⟨by simp only; omega, h.2⟩
          · split
            · split
              · exact ⟨h.1, by simp only; omega⟩
              · exact hz
            · split
              · exact hz
              · exact h
theorem line_short {met : List (List UInt8)} {j : Jb} (s : List UInt8) (h : ShortJ j) : ShortJ (lineM met j s).2.1 := by
  have hz : ShortJ zeroJ := ⟨by simp [zeroJ, zeroSc], by simp [zeroJ]⟩
  unfold lineM
  split
  · exact hz
  · exact h
  · split
    · exact hz
    · rename_i k hk
      split
      · exact hz
      · exact take_short (List.mem_of_find?_eq_some hk) _ h
theorem line_met {met : List (List UInt8)} {j : Jb} (s : List UInt8) : (lineM met j s).2.2.length ≤ met.length + 1 := by
  unfold lineM
  split
  · simp
  · simp
  · split
    · simp
    · split <;> simp
/-- What Parse answers: a job, in new memory, a line's number, an error's number. -/
def GivesPa (R : Jb × Nat × Int) (w : World) (e : Ending) (w' : World) : Prop :=
  ∃ cs, e = .returned (.tuple #[.agg cs.toArray, .int .i64 (R.2.1 : Int), .int .i64 R.2.2]) ∧ JobF w.heap.size w' cs R.1 ∧ Below w.heap.size w w'
theorem end_parse {R : Jb × Nat × Int} {w w1 : World} {fn : Func} {s s2 s3 : Nat} (hr : fn.results = #[.cell s 29, .tmp s2, .tmp s3]) (ds : List Value) (B : Nat) {a : Act} (ht : a.tmps.getD s undef = .pointer (some ⟨B, 0, none⟩)) (hv : a.tmps.getD s2 undef = .int .i64 (R.2.1 : Int)) (hu : a.tmps.getD s3 undef = .int .i64 R.2.2) (hd : a.defers = [])
    (hR : Bx w1 B ds) (hG : JobF w.heap.size w1 ds R.1) (hb : Below w.heap.size w w1) : bodyPost Tryz.prog fn (GivesPa R w) .ret a w1 :=
  bodyPost_ret (v := .tuple #[.agg ds.toArray, .int .i64 (R.2.1 : Int), .int .i64 R.2.2]) (results_wide3 hr B ht ds _ _ _ hv hu hR.range Tryz.underlying29 rfl (by rw [hG.jobA.length]; exact infoJob)) hd ⟨ds, rfl, hG, hb⟩
/-- The first k lines are read. -/
def ParseRel (L : List (List UInt8)) (N : Nat) (R : Jb × Nat × Int) (v : Value) (w : World) (i : Value) (wr : World) : Prop :=
  ∃ (k : Nat) (cs : List Value) (j : Jb) (met : List (List UInt8)), k ≤ N ∧ i = .int .i64 (k : Int) ∧ Bx wr w.heap.size zeroL ∧ Bx wr (w.heap.size + 1) cs ∧ JobG (fun b => w.heap.size + 3 ≤ b) wr cs j ∧ MetW wr (w.heap.size + 2) met ∧ rowT wr (w.heap.size + 3) v L ∧ Below w.heap.size w wr ∧ ShortJ j ∧ met.length ≤ k ∧ parseM (L.drop k) k met j = R
theorem parse_yes {L : List (List UInt8)} {k : Nat} {s : List UInt8} (h : L[k]? = some s) {met : List (List UInt8)} {j : Jb} (h0 : (lineM met j s).1 = 0) : parseM (L.drop k) k met j = parseM (L.drop (k + 1)) (k + 1) (lineM met j s).2.2 (lineM met j s).2.1 := by
  have : L.drop k = s :: L.drop (k + 1) := by
    obtain ⟨h1, h2⟩ := List.getElem?_eq_some_iff.1 h
    rw [List.drop_eq_getElem_cons h1, h2]
  rw [this, parseM, if_pos h0]
theorem parse_no {L : List (List UInt8)} {k : Nat} {s : List UInt8} (h : L[k]? = some s) {met : List (List UInt8)} {j : Jb} (h0 : (lineM met j s).1 ≠ 0) : parseM (L.drop k) k met j = (zeroJ, k, (lineM met j s).1) := by
  have : L.drop k = s :: L.drop (k + 1) := by
    obtain ⟨h1, h2⟩ := List.getElem?_eq_some_iff.1 h
    rw [List.drop_eq_getElem_cons h1, h2]
  rw [this, parseM, if_neg h0]

theorem lines_octets (s : List UInt8) : ∀ (cur : List UInt8), ∀ q ∈ linesM s cur, q.length ≤ cur.length + s.length := by
  induction s with
  | nil => intro cur q hq; simp [linesM] at hq; subst hq; simp
  | cons c r ih =>
    intro cur q hq
    unfold linesM at hq
    split at hq
    · rcases List.mem_cons.1 hq with rfl | hq
      · simp
      · have := ih [] q hq
        simp only [List.length_nil, List.length_cons] at this ⊢
        omega
    · have := ih _ q hq
      simp only [List.length_append, List.length_cons, List.length_nil] at this ⊢
      omega

set_option maxHeartbeats 2000000 in
set_option maxRecDepth 100000 in
theorem parse_any (s : List UInt8) (w : World) (hs : s.length ≤ 900000) (hg : GoodM w) :
    Calls Tryz.prog 9 #[.string (tx s)] w (GivesPa (ticketM s) w) := by
  have KL := fun w => lexLines_any (tx s) w (by rw [tx_size]; omega)
  rw [data_tx] at KL
  obtain ⟨L, hL⟩ : ∃ L, linesM s [] = L := ⟨_, rfl⟩
  obtain ⟨R, hR⟩ : ∃ R, ticketM s = R := ⟨_, rfl⟩
  have hR2 := hR
  unfold ticketM at hR2
  rw [hL] at KL hR2
  rw [hR]
  have hLl := lines_length s []
  rw [hL] at hLl
  have hLs : ∀ q ∈ L, q.length ≤ 900000 := fun q hq => by
    rw [← hL] at hq
    have := lines_octets s [] q hq
    simp only [List.length_nil] at this
    omega
  have HK := Lib.hid KL; have HR := Lib.hid hR2; have HLs := Lib.hid hLs; have HG := Lib.hid hg
  have h1 := Bx.new w 29 zeroL
  have h2 := Bx.new (w.alloc (.cells zeroL.toArray 29)) 29 zeroL
  have h3 := MetW.made ((w.alloc (.cells zeroL.toArray 29)).alloc (.cells zeroL.toArray 29))
  rw [World.size_alloc] at h2
  rw [World.size_alloc, World.size_alloc] at h3
  have u1 := up_alloc (Below.refl (w.alloc (.cells zeroL.toArray 29)).heap.size (w.alloc (.cells zeroL.toArray 29))) (.cells zeroL.toArray 29)
  have u2 := up_alloc (Below.refl ((w.alloc (.cells zeroL.toArray 29)).alloc (.cells zeroL.toArray 29)).heap.size ((w.alloc (.cells zeroL.toArray 29)).alloc (.cells zeroL.toArray 29))) (.map #[] 0)
  have HX0 := Lib.hid ((h1.later (by decide) u1).later (by decide) u2); have HX1 := Lib.hid (h2.later (by decide) u2); have HM := Lib.hid h3
  have HB := Lib.hid (up_alloc (up_alloc (up_alloc (Below.refl w.heap.size w) (.cells zeroL.toArray 29)) (.cells zeroL.toArray 29)) (.map #[] 0))
  have hsz : (((w.alloc (.cells zeroL.toArray 29)).alloc (.cells zeroL.toArray 29)).alloc (.map #[] 0)).heap.size = w.heap.size + 3 := by rw [World.size_alloc, World.size_alloc, World.size_alloc]
  obtain ⟨w3, hw3⟩ : ∃ w3, ((w.alloc (.cells zeroL.toArray 29)).alloc (.cells zeroL.toArray 29)).alloc (.map #[] 0) = w3 := ⟨_, rfl⟩
  rw [hw3] at HX0 HX1 HM HB hsz
  have HW := Lib.hid hw3
  have hmm := @run_makeMap Tryz.prog
  generalize tx s = S at *
  clear KL hL hR hR2 hLs hg h1 h2 h3 u1 u2 hw3
  go_enter Tryz.func9, Tryz.ntmps9
  go_wp2_with (refine wpList_alloc_to rfl 29 rfl _ _ (job_alloc _) ?_; simp only [Act.put, HW.out, World.size_alloc, List.setIfInBounds_toArray, List.set_cons_succ, List.set_cons_zero])
  rw [HW.out]
  refine (HK.out _).mono ?_
  rintro e w4 ⟨v, rfl, hr, hb⟩
  rw [hsz] at hr hb
  have hb' : Below w3.heap.size w3 w4 := by rw [hsz]; exact hb
  have HX04 := Lib.hid (HX0.out.later (by decide) hb'); have HX14 := Lib.hid (HX1.out.later (by decide) hb'); have HM4 := Lib.hid (HM.out.up hb'); have HB4 := Lib.hid (up_trans HB.out hb'); have HR4 := Lib.hid hr
  obtain ⟨a, c, rfl, -⟩ := hr.texF
  obtain ⟨N, hN⟩ : ∃ N, L.length = N := ⟨_, rfl⟩
  rw [hN] at hLl HR4 ⊢
  have HN := Lib.hid hN
  clear hb hb' hr hN HX0 HX1 HM HB
  go_wp2
  go_loopw [17] (fun i wr => ParseRel L N R (.slice a N c) w i wr) (fun i _ => N - (intOf i).toNat)
  case atStart => exact ⟨0, zeroL, zeroJ, [], by omega, by go_num, HX04.out, HX14.out, zeroL_job, HM4.out, HR4.out, HB4.out, ⟨by simp [zeroJ, zeroSc], by simp [zeroJ]⟩, Nat.le_refl _, HR.out⟩
  case round =>
    obtain ⟨k, cs, j, met, hk, rfl, hX0, hX1, hJ, hM, hRw, hB, hS, hml, hP⟩ := hrel
    have HX0 := Lib.hid hX0; have HX1 := Lib.hid hX1; have HJ := Lib.hid hJ; have HM := Lib.hid hM; have HRw := Lib.hid hRw; have HB := Lib.hid hB; have HS := Lib.hid hS; have HP := Lib.hid hP
    clear hX0 hX1 hJ hM hRw hB hS hP HX04 HX14 HM4 HR4 HB4
    have HL := Lib.hid HJ.out.length
    by_cases hlt : k < N
    · obtain ⟨q, hq⟩ : ∃ q, L[k]? = some q := ⟨L[k]'(by rw [HN.out]; exact hlt), List.getElem?_eq_getElem _⟩
      obtain ⟨g, c', he, hgb, hc, hcap, hmax⟩ := HRw.out.own (by rintro rfl; cases hq)
      injection he with he1 he2 he3
      subst he1 he3
      clear he2
      have c0 := hc k q hq
      have z1 : (k : Int) < (N : Int) := by omega
      have HY := Lib.hid (fun h => parse_yes (met := met) (j := j) hq h); have HNo := Lib.hid (fun h => parse_no (met := met) (j := j) hq h)
      have KR := read_any (fun b => w.heap.size + 3 ≤ b) (w.heap.size + 2) cs j met q wr HJ.out HM.out (HLs.out q (List.mem_of_getElem? hq)) (by omega) (by omega) HS.out.1 HS.out.2 (HG.out.below HB.out)
      have HSh := Lib.hid (line_short (met := met) q HS.out); have HMl := Lib.hid (line_met (met := met) (j := j) q)
      generalize lineM met j q = r at *
      obtain ⟨er, j2, met2⟩ := r
      simp only at KR HSh HMl
      have HKR := Lib.hid KR
      generalize tx q = P at *
      clear KR hc hq
      go_wp2_with (refine wpList_load_job rfl _ rfl (w.heap.size + 1) rfl cs HX1.out HL.out ?_; simp only [Act.put, List.setIfInBounds_toArray, List.set_cons_succ, List.set_cons_zero])
      refine HKR.out.mono ?_
      rintro e w5 ⟨ds, rfl, hJ5, hM5, hb5⟩
      have hwr : w.heap.size + 2 < wr.heap.size := HM.out.lt
      have hs5 := hb5.size
      have u5 := up_alloc (Below.refl w5.heap.size w5) (.cells zeroL.toArray 29)
      have u6 := below_setCells (Nat.le_refl w5.heap.size) ds 0 _ u5
      have hX05 := but_box hb5 HX0.out (by decide) (by omega)
      have hX15 := but_box hb5 HX1.out (by rw [HL.out]; decide) (by omega)
      have hB5 := HB.out.trans (hb5.below (B := w.heap.size) (by omega) (by omega) (by omega))
      have hR5 := HRw.out.kept fun k h1 h2 => hb5.block k h2 (by omega) (by omega)
      have HN5 := Lib.hid (Bx.new w5 29 zeroL)
      have hJ5' := hJ5.mono (G' := fun b => w.heap.size + 3 ≤ b) (fun b h => by rcases h with h | h; exact h; omega)
      have HL5 := Lib.hid hJ5.length
      have HX6 := Lib.hid (hX05.later (by decide) u6); have HX16 := Lib.hid (hX15.later (by rw [HL.out]; decide) u6); have HB6 := Lib.hid (up_trans hB5 (by exact u6)); have HR6 := Lib.hid (hR5.up u6); have HJ6 := Lib.hid (hJ5'.up u6); have HM6 := Lib.hid (hM5.up u6)
      have HN6 := Lib.hid (HN5.out.sets (ws := ds) (by rw [HL5.out]; rfl))
      obtain ⟨w6, hw6⟩ : ∃ w6, (w5.alloc (.cells zeroL.toArray 29)).setCells w5.heap.size 0 ds = w6 := ⟨_, rfl⟩
      rw [hw6] at HX6 HX16 HB6 HR6 HJ6 HM6 HN6
      clear u5 u6 hX05 hX15 hB5 hR5 hJ5' hJ5 hM5 hb5 HX0 HX1 HB HRw HJ HM c0
      by_cases h0 : er = 0
      · subst h0
        have HE := Lib.hid ((HY.out (by trivial)).symm.trans HP.out)
        clear HP HY HNo
        go_wp2_with (first
          | (refine wpList_alloc_to rfl 29 rfl _ _ (job_alloc _) ?_; simp only [Act.put, List.setIfInBounds_toArray, List.set_cons_succ, List.set_cons_zero])
          | (refine wpList_store_job rfl _ _ rfl w5.heap.size rfl zeroL ds rfl HN5.out rfl HL5.out HJ6.out.one ?_; simp only [Act.put, hw6])
          | (refine wpList_load_job rfl _ rfl w5.heap.size rfl ds HN6.out HL5.out ?_; simp only [Act.put, List.setIfInBounds_toArray, List.set_cons_succ, List.set_cons_zero])
          | (refine wpList_store_job rfl _ _ rfl (w.heap.size + 1) rfl cs ds rfl HX16.out HL.out HL5.out HJ6.out.one ?_; simp only [Act.put]))
        have HQ := Lib.hid (And.intro (sets_far (B := w.heap.size + 1) HX6.out (by omega) 0 ds) (And.intro (HX16.out.sets (ws := ds) (by rw [HL5.out, HL.out])) (And.intro (HJ6.out.keep (B := w.heap.size + 1) (by omega) (keep_sets _ _ 0 ds)) (And.intro (metW_sets (B := w.heap.size + 1) HM6.out (by omega) ds) (And.intro (HR6.out.kept fun k h1 h2 => (setCells_but (w.heap.size + 1) (w.heap.size + 1) 0 ds w6).block k h2 (by omega) (by omega)) (below_setCells (B := w.heap.size + 1) (by omega) ds 0 _ HB6.out))))))
        go_roundw
        case rel => exact ⟨k + 1, ds, j2, met2, by omega, by go_num, HQ.out.1, HQ.out.2.1, HQ.out.2.2.1, HQ.out.2.2.2.1, HQ.out.2.2.2.2.1, HQ.out.2.2.2.2.2, HSh.out, by have := HMl.out; omega, HE.out⟩
        case measure => simp [intOf]; omega
      · have z3 : (er != 0) = true := by simpa using h0
        have HE := Lib.hid (HP.out.symm.trans (HNo.out h0))
        clear h0
        go_wp2_with (first
          | (refine wpList_alloc_to rfl 29 rfl _ _ (job_alloc _) ?_; simp only [Act.put, List.setIfInBounds_toArray, List.set_cons_succ, List.set_cons_zero])
          | (refine wpList_store_job rfl _ _ rfl w5.heap.size rfl zeroL ds rfl HN5.out rfl HL5.out HJ6.out.one ?_; simp only [Act.put, hw6])
          | (refine wpList_zero_job rfl rfl ?_; simp only [Act.put, List.setIfInBounds_toArray, List.set_cons_succ, List.set_cons_zero])
          | (refine wpList_store_job rfl _ _ rfl w.heap.size rfl zeroL zeroL rfl HX6.out rfl rfl zeroL_one ?_; simp only [Act.put]))
        have HSs := HX6.out.sets (ws := zeroL) rfl
        obtain rfl : (zeroJ, k, er) = R := HE.out.symm
        exact end_parse (R := (zeroJ, k, er)) Tryz.results9 zeroL w.heap.size (by rfl) (by rfl) (by rfl) (by rfl) HSs zeroL_job (below_setCells (Nat.le_refl _) _ _ _ HB6.out)
    · obtain rfl : k = N := by omega
      have hPe := HP.out
      rw [List.drop_of_length_le (by rw [HN.out]; exact Nat.le_refl _)] at hPe
      unfold parseM at hPe
      have KC := lacks_any (w.heap.size + 2) met wr HM.out
      cases hlk : lacksB met
      · rw [hlk] at hPe KC
        simp only [Bool.false_eq_true, if_false] at hPe
        subst hPe
        have HKC := Lib.hid KC
        clear KC hlk HP HR
        go_wp2_with fail
        refine HKC.out.mono ?_
        rintro e w5 ⟨rfl, hb⟩
        have HX05 := Lib.hid (HX0.out.later (by decide) hb); have HX15 := Lib.hid (HX1.out.later (by rw [HL.out]; decide) hb); have HB5 := Lib.hid (up_trans HB.out hb); have HJ5 := Lib.hid (HJ.out.up hb)
        clear hb
        go_wp2_with (first
          | (refine wpList_load_job rfl _ rfl (w.heap.size + 1) rfl cs HX15.out HL.out ?_; simp only [Act.put, List.setIfInBounds_toArray, List.set_cons_succ, List.set_cons_zero])
          | (refine wpList_store_job rfl _ _ rfl w.heap.size rfl zeroL cs rfl HX05.out rfl HL.out HJ5.out.one ?_; simp only [Act.put]))
        have HSs := HX05.out.sets (ws := cs) (by rw [HL.out]; rfl)
        have g1 := (HJ5.out.keep (B := w.heap.size) (by omega) (keep_sets _ w.heap.size 0 cs)).mono (G' := fun b => w.heap.size ≤ b) (fun b (h : w.heap.size + 3 ≤ b) => by omega)
        exact end_parse (R := (j, k, 0)) Tryz.results9 cs w.heap.size (by rfl) (by rfl) (by rfl) (by rfl) HSs g1 (below_setCells (Nat.le_refl _) _ _ _ HB5.out)
      · rw [hlk] at hPe KC
        simp only [if_true] at hPe
        subst hPe
        have HKC := Lib.hid KC
        clear KC hlk HP HR
        go_wp2_with fail
        refine HKC.out.mono ?_
        rintro e w5 ⟨rfl, hb⟩
        have HX05 := Lib.hid (HX0.out.later (by decide) hb); have HB5 := Lib.hid (up_trans HB.out hb)
        clear hb
        go_wp2_with (first
          | (refine wpList_zero_job rfl rfl ?_; simp only [Act.put, List.setIfInBounds_toArray, List.set_cons_succ, List.set_cons_zero])
          | (refine wpList_store_job rfl _ _ rfl w.heap.size rfl zeroL zeroL rfl HX05.out rfl rfl zeroL_one ?_; simp only [Act.put]))
        have HSs := HX05.out.sets (ws := zeroL) rfl
        exact end_parse (R := (zeroJ, k, 4)) Tryz.results9 zeroL w.heap.size (by rfl) (by rfl) (by rfl) (by rfl) HSs zeroL_job (below_setCells (Nat.le_refl _) _ _ _ HB5.out)
end Go.Proofs.YtenigkjonegdmaaGreatDoor
/- The library's Builder and Join at this program, in the words of texts. -/
namespace Go.Proofs.YtenigkjonegdmaaGreatDoor
open Go.RowKit
set_option linter.unusedVariables false
set_option linter.unusedSimpArgs false

/-- The builder in block b holds these octets. -/
def IsB (b : Nat) (l : List UInt8) (w : World) : Prop := Lib.IsBuilderF 46 5 b b (Lib.byteCells l) w
theorem IsB.new (w : World) : IsB w.heap.size [] (w.alloc (.cells #[.pointer none, .slice none 0 0] 46)) := Lib.IsBuilderF.of (Lib.fresh_isBuilder _ _ w)
theorem IsB.lt {b : Nat} {l : List UInt8} {w : World} (h : IsB b l w) : b < w.heap.size := h.elim Lib.BuilderAtF.lt Lib.BuilderAtF.lt
theorem builder_up {T e : TypeId} {B b : Nat} {p : Value} {bs : List Value} {w w' : World} (h : Lib.BuilderAtF T e B b p bs w) (hb : Below w.heap.size w w') : Lib.BuilderAtF T e B b p bs w' := by
  have hlt := h.lt
  obtain ⟨h1, v, h2, ⟨h0, h3⟩, h4⟩ := h
  refine ⟨h1, v, (hb.block b hlt).trans h2, ⟨h0, ?_⟩, h4⟩
  rcases h3 with h3 | ⟨g, cap, cur, fz, e1, e2, e3, e4⟩
  · exact .inl h3
  · exact .inr ⟨g, cap, cur, fz, e1, e2, (hb.block g (Array.getElem?_eq_some_iff.1 e3).1).trans e3, e4⟩
theorem IsB.up {b : Nat} {l : List UInt8} {w w' : World} (h : IsB b l w) (hb : Below w.heap.size w w') : IsB b l w' := h.imp (builder_up · hb) (builder_up · hb)
theorem write_any (b : Nat) (l p : List UInt8) (w : World) (h : IsB b l w) (hl : l.length + p.length ≤ 1000000000) :
    Calls Tryz.prog 19 #[.pointer (some ⟨b, 0, none⟩), .string (tx p)] w fun e w' => e = .returned (.tuple #[.int .i64 ((tx p).size : Int), .nilIface]) ∧ IsB b (l ++ p) w' ∧ Below b w w' ∧ Lib.OthersKept 5 (some b) w w' := by
  refine (Any.Builder_WriteString_k (P := Tryz.prog) (ρ := Tryz.lays156_ren) { Tryz.lays156 with } Tryz.Builder_Extra_156 b b (Lib.byteCells l) (tx p) w h (by rw [Lib.byteCells_length, tx_size]; omega) (Nat.le_of_lt h.lt)).mono ?_
  rintro e w' ⟨rfl, h1, h2, h3⟩
  refine ⟨rfl, .inr ?_, h2, h3⟩
  rw [Lib.byteCells_append]
  exact h1
theorem string_any (b : Nat) (l : List UInt8) (w : World) (h : IsB b l w) :
    Calls Tryz.prog 21 #[.pointer (some ⟨b, 0, none⟩)] w fun e w' => e = .returned (.string (tx l)) ∧ Below b w w' := by
  refine (Any.Builder_String_any_k (P := Tryz.prog) (ρ := Tryz.lays169_ren) Tryz.lays169 Tryz.Builder_Extra_169 b b l w h (Nat.le_of_lt h.lt)).mono ?_
  rintro e w' ⟨rfl, h1, h2, h3⟩
  exact ⟨rfl, h2⟩
theorem join_lib (ls : List (List UInt8)) : Lib.join ls [32] = joinM ls := by
  cases ls with
  | nil => rfl
  | cons p r =>
    rw [Lib.join_cons, joinM_cons]
    rfl
theorem join_any (a : Option Addr) (c : Nat) (ls : List (List UInt8)) (w : World) (h : TxA w a c ls) (hl : ls.length ≤ 1000000) (hj : (joinM ls).length ≤ 1000000000) :
    Calls Tryz.prog 20 #[.slice a ls.length c, .string ⟨#[32]⟩] w fun e w' => e = .returned (.string (tx (joinM ls))) ∧ Below w.heap.size w w' := by
  have hm : (ls.map tx).map (·.data.toList) = ls := by
    rw [List.map_map]
    exact (List.map_congr_left fun l _ => data_tx l).trans (List.map_id _)
  rcases h with rfl | ⟨g, o, rfl, hc, hcap, hmax⟩
  · exact (Tryz.strings_Join_none a c ⟨#[32]⟩ w).mono fun e w' ⟨he, hw⟩ => ⟨he, hw ▸ Below.refl _ _⟩
  · by_cases h0 : ls = []
    · subst h0
      exact (Tryz.strings_Join_none _ c ⟨#[32]⟩ w).mono fun e w' ⟨he, hw⟩ => ⟨he, hw ▸ Below.refl _ _⟩
    have hlt : g < w.heap.size := by
      cases ls with
      | nil => exact absurd rfl h0
      | cons l r => exact World.block_lt_of_cell? w _ (hc 0 l rfl)
    have K := Tryz.strings_Join g o c (ls.map tx) ⟨#[32]⟩ w (fun j x hx => by
      rw [List.getElem?_map, Option.map_eq_some_iff] at hx
      obtain ⟨l, hl, rfl⟩ := hx
      exact hc j l hl) hlt (by rw [List.length_map]; omega) (by rw [List.length_map]; exact hcap) (by rw [hm, show (⟨#[32]⟩ : ByteArray).data.toList = [32] from rfl, join_lib]; omega)
    rw [hm, show (⟨#[32]⟩ : ByteArray).data.toList = [32] from rfl, join_lib, List.length_map] at K
    exact K
end Go.Proofs.YtenigkjonegdmaaGreatDoor
/- What bounds.Get answers, of any int. -/
namespace Go.Proofs.YtenigkjonegdmaaGreatDoor
open Go.RowKit
set_option linter.unusedVariables false

theorem bGet_any (cs : List Value) (n : Nat → Int) (i : Int) (w : World) (hl : cs.length = 33) (hv : ∀ k, k < 28 → cs[cellJ k]? = some (.int .i64 (n k))) :
    Calls Tryz.prog 38 #[.agg cs.toArray, .int .i64 i] w fun e w' => e = .returned (.int .i64 (getJ n i)) ∧ Below w.heap.size w w' := by
  cases hb : (decide (0 ≤ i) && decide (i ≤ 27))
  · rw [getJ_out hb]
    exact bGet_out cs i w hb
  · obtain ⟨k, hk, rfl⟩ := place_of hb
    rw [getJ_in hk]
    exact bGet_in cs _ k w hk hl (hv k hk)
end Go.Proofs.YtenigkjonegdmaaGreatDoor
/- What ticket's wordPart, numberParts and parts answer. -/
namespace Go.Proofs.YtenigkjonegdmaaGreatDoor
open Go.RowKit
set_option linter.unusedVariables false
set_option linter.unusedSimpArgs false

/-- A list of texts, and a truth. -/
def GivesP (l : List (List UInt8)) (b : Bool) (w : World) (e : Ending) (w' : World) : Prop := ∃ a c, e = .returned (.tuple #[.slice a l.length c, .bool b]) ∧ TxA w' a c l ∧ Below w.heap.size w w'
theorem txA_one {w : World} {B : Nat} {p : List UInt8} (h : w.cell? ⟨B, 0, none⟩ = some (.string (tx p))) : TxA w (some ⟨B, 0, none⟩) 1 [p] := by
  refine .inr ⟨B, 0, rfl, fun i l hi => ?_, by simp, by unfold maxLen; omega⟩
  obtain rfl : i = 0 := by
    have := (List.getElem?_eq_some_iff.1 hi).1
    simpa using this
  obtain rfl := Option.some.inj hi
  exact h
theorem cellOne_new (w : World) (T : TypeId) (v : Value) : (w.alloc (.cells #[v] T)).cell? ⟨w.heap.size, 0, none⟩ = some v := by simp [go_sem]

theorem wordPart_any (t n : Int) (w : World) : Calls Tryz.prog 37 #[.int .i64 t, .int .i64 n] w (GivesP (wprM t n).1 (wprM t n).2 w) := by
  have K := wordsPut_any t n w
  unfold wprM
  have e1 : ((word (tab t) n).toList == []) = !decide (word (tab t) n ≠ ⟨#[]⟩) := by
    by_cases h : word (tab t) n = ⟨#[]⟩
    · rw [h]
      show ((tx []).toList == []) = _
      rw [toList_none]
      simp
    · rw [toList_some h]; simp [h]
  generalize word (tab t) n = p at *
  generalize decide (p ≠ ⟨#[]⟩) = b at *
  have HK := Lib.hid K
  clear K
  go_enter Tryz.func37, Tryz.ntmps37
  go_wp2_with fail
  refine HK.out.mono ?_
  rintro e w1 ⟨rfl, hb⟩
  have HB := Lib.hid hb
  clear hb
  go_wp2
  go_ret2
  refine ⟨some ⟨w1.heap.size, 0, none⟩, 1, by simp, txA_one (by rw [tx_data]; exact cellOne_new _ _ _), up_alloc HB.out _⟩

theorem rowT.low {w : World} {base base' : Nat} {v : Value} {ls : List (List UInt8)} (h : rowT w base v ls) (hb : base' ≤ base) : rowT w base' v ls := by
  obtain ⟨h0, h | ⟨g, cap, cur, h1, h2, h3⟩⟩ := h
  · exact ⟨h0, .inl h⟩
  · exact ⟨h0, .inr ⟨g, cap, cur, h1, Nat.le_trans hb h2, h3⟩⟩
/-- The digits of m numbers from the f-th on stand there. -/
def NumsRel (w2 : World) (f : Nat) (n : Nat → Int) (h : Nat) (v i : Value) (wr : World) : Prop :=
  ∃ m : Nat, m ≤ h ∧ i = .int .i64 (m : Int) ∧ rowT wr w2.heap.size v ((List.range' f m).map fun i => Lib.itoa (n i)) ∧ Below w2.heap.size w2 wr
theorem digits_next (f m : Nat) (n : Nat → Int) : (List.range' f (m + 1)).map (fun i => Lib.itoa (n i)) = (List.range' f m).map (fun i => Lib.itoa (n i)) ++ [Lib.itoa (n (f + m))] := by
  rw [List.range'_1_concat, List.map_append]
  rfl
set_option maxRecDepth 100000 in
theorem numberParts_core (cs : List Value) (n : Nat → Int) (W : ByteArray) (kd klo : Int) (f h : Nat) (w : World) (hl : cs.length = 33) (hv : ∀ k, k < 28 → cs[cellJ k]? = some (.int .i64 (n k))) (hf : f + h ≤ 28)
    (hw : ∀ i, -9223372036854775808 ≤ n i ∧ n i ≤ 9223372036854775807) (hg : Tab w) :
    Calls Tryz.prog 41 #[.agg cs.toArray, .agg #[.string W, .int .i64 kd, .int .i64 (f : Int), .int .i64 klo, .int .i64 (h : Int)]] w fun e w' => ∃ v, e = .returned v ∧ rowT w' w.heap.size v ((List.range' f h).map fun i => Lib.itoa (n i)) ∧ Below w.heap.size w w' := by
  have hX := (Bx.new w 29 cs).later (by rw [hl]; decide) (up_alloc (Below.refl _ _) (.cells #[.string W, .int .i64 kd, .int .i64 (f : Int), .int .i64 klo, .int .i64 (h : Int)] 51))
  have hK := Bx.new (w.alloc (.cells cs.toArray 29)) 51 [.string W, .int .i64 kd, .int .i64 (f : Int), .int .i64 klo, .int .i64 (h : Int)]
  rw [World.size_alloc] at hK
  have hB := up_alloc (up_alloc (Below.refl w.heap.size w) (.cells cs.toArray 29)) (.cells #[.string W, .int .i64 kd, .int .i64 (f : Int), .int .i64 klo, .int .i64 (h : Int)] 51)
  have HL := Lib.hid hl
  have HG := Lib.hid (fun i w1 => bGet_any cs n i w1 hl hv)
  have HT := Lib.hid (hg.below hB)
  have HW := Lib.hid hw
  have HX := Lib.hid hX; have HK := Lib.hid hK; have HB := Lib.hid hB
  clear hl hv hw hg hX hB
  go_enter Tryz.func41, Tryz.ntmps41
  have k4 := hK.cell 4 rfl
  go_wp2
  clear k4
  obtain ⟨w2, hw2⟩ : ∃ w2, (w.alloc (.cells cs.toArray 29)).alloc (.cells #[.string W, .int .i64 kd, .int .i64 (f : Int), .int .i64 klo, .int .i64 (h : Int)] 51) = w2 := ⟨_, rfl⟩
  rw [hw2] at HT HX HK HB ⊢
  clear hw2 hK
  go_loopw [5, 9] (fun v i wr => NumsRel w2 f n h v i wr) (fun _ i _ => h - (intOf i).toNat)
  case atStart => exact ⟨0, by omega, by go_num, rowT_nil _ _, Below.refl _ _⟩
  case round =>
    obtain ⟨m, hm, rfl, hrow, hb⟩ := hrel
    have HR := Lib.hid hrow; have HBr := Lib.hid hb
    clear hrow hb
    by_cases hlt : m < h
    · have z1 : (m : Int) < (h : Int) := by omega
      have z0 : (0 : Int) ≤ (m : Int) := by omega
      have z2 : IntKind.i64.wrap ((f : Int) + (m : Int)) = ((f + m : Nat) : Int) := IntWalk.i64_in _ (by omega)
      have HX3 := Lib.hid (HX.out.later (by rw [HL.out]; decide) HBr.out)
      have k2 := (HK.out.up HBr.out).cell 2 rfl
      have KG := fun w1 => HG.out ((f + m : Nat) : Int) w1
      rw [getJ_in (by omega)] at KG
      have hd := digits_next f m n
      have HKG := Lib.hid KG
      have HKP := Lib.hid (fun w1 hg => decPut_any (n (f + m)) w1 (HW.out _).1 (HW.out _).2 hg)
      generalize n (f + m) = z at *
      have HD := Lib.hid hd
      obtain ⟨p, hp⟩ : ∃ p, (⟨(Lib.itoa z).toArray⟩ : ByteArray) = p := ⟨_, rfl⟩
      rw [hp] at HKP
      have HP := Lib.hid hp
      clear KG hd hp
      go_wp2_with (refine wpList_load_job rfl _ rfl w.heap.size rfl cs HX3.out HL.out ?_; simp only [Act.put, List.setIfInBounds_toArray, List.set_cons_succ, List.set_cons_zero])
      refine (HKG.out _).mono ?_
      rintro e w4 ⟨rfl, hb⟩
      have HB4 := Lib.hid (up_trans HBr.out hb)
      have HR4 := Lib.hid (HR.out.up hb)
      clear hb k2
      go_wp2_with fail
      refine (HKP.out _ (HT.out.below HB4.out)).mono ?_
      rintro e w5 ⟨rfl, hb⟩
      have HB5 := Lib.hid (up_trans HB4.out hb)
      have HR5 := Lib.hid (HR4.out.up hb)
      clear hb
      go_wp2_with (at_builtin; refine wpList_append_text rfl _ _ rfl w2.heap.size _ _ rfl HR5.out HB5.out.size p (Lib.itoa z) HP.out.symm rfl ?len ?_)
      case len => rw [List.length_map, List.length_range']; omega
      intro v1 w6 h1 hb1
      have H1 := Lib.hid h1; have HB6 := Lib.hid (HB5.out.trans hb1)
      clear h1 hb1
      go_wp2
      go_roundw
      case rel => exact ⟨m + 1, by omega, by go_num, by rw [HD.out]; exact H1.out, HB6.out⟩
      case measure => simp [intOf]; omega
    · obtain rfl : m = h := by omega
      have H1 := Lib.hid (up_trans HB.out HBr.out)
      have hs := HB.out.size
      go_wp2
      go_ret
      exact ⟨_, rfl, HR.out.low hs, H1.out⟩
end Go.Proofs.YtenigkjonegdmaaGreatDoor
/- What ticket's parts answers, of each key. -/
namespace Go.Proofs.YtenigkjonegdmaaGreatDoor
open Go.RowKit
set_option linter.unusedVariables false
set_option linter.unusedSimpArgs false

section
variable (cs : List Value) (W : ByteArray) (f lo hi : Int) (w : World)
/-- The boxes of a job and of a key, just made. -/
theorem two_boxes (T K : TypeId) (hl : cs.length = 33) (ks : List Value) : Bx ((w.alloc (.cells cs.toArray T)).alloc (.cells ks.toArray K)) w.heap.size cs ∧ Bx ((w.alloc (.cells cs.toArray T)).alloc (.cells ks.toArray K)) (w.heap.size + 1) ks ∧ Below w.heap.size w ((w.alloc (.cells cs.toArray T)).alloc (.cells ks.toArray K)) := by
  refine ⟨(Bx.new w T cs).later (by rw [hl]; decide) (up_alloc (Below.refl _ _) _), ?_, up_alloc (up_alloc (Below.refl w.heap.size w) _) _⟩
  have := Bx.new (w.alloc (.cells cs.toArray T)) K ks
  rwa [World.size_alloc] at this

theorem parts_long (T : ByteArray) (hl : cs.length = 33) (h0 : cs[0]? = some (.string T)) (hT : 60 < T.size) :
    Calls Tryz.prog 17 #[.agg cs.toArray, .agg #[.string W, .int .i64 0, .int .i64 f, .int .i64 lo, .int .i64 hi]] w (GivesP [] false w) := by
  obtain ⟨hX, hK, hB⟩ := two_boxes cs w 29 51 hl [.string W, .int .i64 0, .int .i64 f, .int .i64 lo, .int .i64 hi]
  have x0 := hX.cell 0 h0
  have k1 := hK.cell 1 rfl
  have z1 : (60 : Int) < (T.size : Int) := by omega
  have HB := Lib.hid hB
  clear hX hK hB hl h0 hT
  go_enter Tryz.func17, Tryz.ntmps17
  go_wp2
  go_ret2
  exact ⟨none, 0, rfl, .inl rfl, HB.out⟩
theorem parts_title (t : List UInt8) (hl : cs.length = 33) (h0 : cs[0]? = some (.string (tx t))) (hT : t.length ≤ 60) :
    Calls Tryz.prog 17 #[.agg cs.toArray, .agg #[.string W, .int .i64 0, .int .i64 f, .int .i64 lo, .int .i64 hi]] w (GivesP [(quoteO t).getD []] (quoteO t).isSome w) := by
  obtain ⟨hX, hK, hB⟩ := two_boxes cs w 29 51 hl [.string W, .int .i64 0, .int .i64 f, .int .i64 lo, .int .i64 hi]
  have x0 := hX.cell 0 h0
  have k1 := hK.cell 1 rfl
  have hz := tx_size t
  have KQ := fun w => lexQuote_any t w (by omega)
  have HB := Lib.hid hB
  clear hX hK hB hl h0
  generalize tx t = T at *
  generalize quoteO t = q at *
  have HQ := Lib.hid KQ
  have z1 : ¬ (60 : Int) < (T.size : Int) := by omega
  clear KQ hz hT
  go_enter Tryz.func17, Tryz.ntmps17
  go_wp2_with fail
  refine (HQ.out _).mono ?_
  rintro e w1 ⟨rfl, hb⟩
  have HB1 := Lib.hid (up_trans HB.out hb)
  clear hb x0 k1
  go_wp2
  go_ret2
  exact ⟨some ⟨w1.heap.size, 0, none⟩, 1, rfl, txA_one (cellOne_new _ _ _), up_alloc HB1.out _⟩
theorem parts_word (n : Nat → Int) (i : Nat) (t : Int) (kd : Int) (ht : (kd = 2 ∧ t = 1) ∨ (kd = 3 ∧ t = 2)) (hi28 : i < 28) (hl : cs.length = 33) (hv : ∀ k, k < 28 → cs[cellJ k]? = some (.int .i64 (n k))) :
    Calls Tryz.prog 17 #[.agg cs.toArray, .agg #[.string W, .int .i64 kd, .int .i64 (i : Int), .int .i64 lo, .int .i64 hi]] w (GivesP (wprM t (n i)).1 (wprM t (n i)).2 w) := by
  obtain ⟨hX, hK, hB⟩ := two_boxes cs w 29 51 hl [.string W, .int .i64 kd, .int .i64 (i : Int), .int .i64 lo, .int .i64 hi]
  have k1 := hK.cell 1 rfl; have k2 := hK.cell 2 rfl
  have KG := fun w => bGet_any cs n (i : Int) w hl hv
  rw [getJ_in hi28] at KG
  have HG := Lib.hid KG
  have HP := Lib.hid (fun w => wordPart_any t (n i) w)
  have HB := Lib.hid hB; have HX := Lib.hid hX; have HL := Lib.hid hl
  generalize n i = z at *
  generalize wprM t z = r at *
  clear hX hK hB hv KG hl
  rcases ht with ⟨rfl, rfl⟩ | ⟨rfl, rfl⟩
  all_goals
    go_enter Tryz.func17, Tryz.ntmps17
    go_wp2_with (refine wpList_load_job rfl _ rfl w.heap.size rfl cs HX.out HL.out ?_; simp only [Act.put, List.setIfInBounds_toArray, List.set_cons_succ, List.set_cons_zero])
    refine (HG.out _).mono ?_
    rintro e w1 ⟨rfl, hb⟩
    have HB1 := Lib.hid (up_trans HB.out hb)
    clear hb k1 k2
    go_wp2_with fail
    refine (HP.out _).mono ?_
    rintro e w2 ⟨a, c, rfl, hT, hb⟩
    have HB2 := Lib.hid (up_trans HB1.out hb)
    have HT := Lib.hid hT
    clear hb hT
    go_wp2
    go_ret2
    exact ⟨a, c, rfl, HT.out, HB2.out⟩
theorem parts_scheme (s : Sc) (a : Option Addr) (cap : Nat) (hl : cs.length = 33) (h12 : cs[12]? = some (.int .i64 s.c)) (h13 : cs[13]? = some (.int .i64 s.r)) (h14 : cs[14]? = some (.slice a s.l.length cap)) (hI : InL w a s.l) (hg : GoodM w) :
    Calls Tryz.prog 17 #[.agg cs.toArray, .agg #[.string W, .int .i64 4, .int .i64 f, .int .i64 lo, .int .i64 hi]] w (GivesP [(putM s).getD []] (putM s).isSome w) := by
  obtain ⟨hX, hK, hB⟩ := two_boxes cs w 29 51 hl [.string W, .int .i64 4, .int .i64 f, .int .i64 lo, .int .i64 hi]
  have k1 := hK.cell 1 rfl
  have x12 := hX.cell 12 h12; have x13 := hX.cell 13 h13; have x14 := hX.cell 14 h14
  have KS := schPut_any s a cap _ (hI.up hB) (hg.below hB)
  have e : putT s = tx ((putM s).getD []) := by unfold putT; cases putM s <;> rfl
  rw [e] at KS
  have HS := Lib.hid KS
  generalize (putM s).isSome = b at *
  generalize (putM s).getD [] = p at *
  have HB := Lib.hid hB
  clear hX hK hB KS e hl h12 h13 h14 hI hg
  generalize s.l.length = m at *
  generalize s.c = c at *
  generalize s.r = r at *
  generalize hp : tx p = P at *
  have HP := Lib.hid hp
  clear hp
  go_enter Tryz.func17, Tryz.ntmps17
  go_wp2_with fail
  refine HS.out.mono ?_
  rintro e w1 ⟨rfl, hb⟩
  have HB1 := Lib.hid (up_trans HB.out hb)
  clear hb x12 x13 x14 k1
  go_wp2
  go_ret2
  exact ⟨some ⟨w1.heap.size, 0, none⟩, 1, rfl, txA_one (by rw [HP.out]; exact cellOne_new _ _ _), up_alloc HB1.out _⟩
theorem parts_nums (n : Nat → Int) (i h : Nat) (hl : cs.length = 33) (hv : ∀ k, k < 28 → cs[cellJ k]? = some (.int .i64 (n k))) (hih : i + h ≤ 28) (hw : ∀ i, -9223372036854775808 ≤ n i ∧ n i ≤ 9223372036854775807) (hg : Tab w) :
    Calls Tryz.prog 17 #[.agg cs.toArray, .agg #[.string W, .int .i64 1, .int .i64 (i : Int), .int .i64 lo, .int .i64 (h : Int)]] w (GivesP ((List.range' i h).map fun i => Lib.itoa (n i)) true w) := by
  obtain ⟨hX, hK, hB⟩ := two_boxes cs w 29 51 hl [.string W, .int .i64 1, .int .i64 (i : Int), .int .i64 lo, .int .i64 (h : Int)]
  have k0 := hK.cell 0 rfl; have k1 := hK.cell 1 rfl; have k2 := hK.cell 2 rfl; have k3 := hK.cell 3 rfl; have k4 := hK.cell 4 rfl
  have HN := Lib.hid (numberParts_core cs n W 1 lo i h _ hl hv hih hw (hg.below hB))
  have HB := Lib.hid hB; have HX := Lib.hid hX; have HL := Lib.hid hl
  generalize (List.range' i h).map (fun i => Lib.itoa (n i)) = r at *
  clear hX hK hB hv hl hg hw
  go_enter Tryz.func17, Tryz.ntmps17
  go_wp2_with (refine wpList_load_job rfl _ rfl w.heap.size rfl cs HX.out HL.out ?_; simp only [Act.put, List.setIfInBounds_toArray, List.set_cons_succ, List.set_cons_zero])
  refine HN.out.mono ?_
  rintro e w1 ⟨v, rfl, hr, hb⟩
  obtain ⟨a, c, rfl, hT⟩ := hr.texF
  have HB1 := Lib.hid (up_trans HB.out hb)
  have HT := Lib.hid hT.arg
  clear hb hT hr k0 k1 k2 k3 k4
  go_wp2
  go_ret2
  exact ⟨a, c, rfl, HT.out, HB1.out⟩
theorem parts_last (a : Option Addr) (cap : Nat) (ls : List (List UInt8)) (h : Nat) (hl : cs.length = 33) (h15 : cs[15]? = some (.slice a ls.length cap)) (hT : TxA w a cap ls) (hz : ∀ l ∈ ls, l.length ≤ 1000000000) (hls : ls.length ≤ 1000000) :
    Calls Tryz.prog 17 #[.agg cs.toArray, .agg #[.string W, .int .i64 5, .int .i64 f, .int .i64 lo, .int .i64 (h : Int)]] w (GivesP ls (decide (ls.length ≤ h) && namesB ls) w) := by
  obtain ⟨hX, hK, hB⟩ := two_boxes cs w 29 51 hl [.string W, .int .i64 5, .int .i64 f, .int .i64 lo, .int .i64 (h : Int)]
  have k1 := hK.cell 1 rfl
  have HN := Lib.hid (fun w1 (hb : Below w.heap.size w w1) => areNames_any a cap ls w1 (hT.up hb) hz hls)
  have hd : decide ((ls.length : Int) ≤ (h : Int)) = decide (ls.length ≤ h) := by rw [Bool.eq_iff_iff]; simp
  have HT := Lib.hid hT
  generalize namesB ls = b at *
  obtain ⟨b1, hb1⟩ : ∃ b1, decide (ls.length ≤ h) = b1 := ⟨_, rfl⟩
  rw [hb1] at hd
  unfold GivesP
  rw [hb1]
  obtain ⟨m, hm⟩ : ∃ m, ls.length = m := ⟨_, rfl⟩
  rw [hm] at hd hb1 h15 HN ⊢
  have HB := Lib.hid hB; have HX := Lib.hid hX; have HK := Lib.hid hK; have H15 := Lib.hid h15
  clear hX hK hB hT hm hz hls hl h15
  go_enter Tryz.func17, Tryz.ntmps17
  go_wp2_with fail
  generalize (w.alloc (.cells cs.toArray 29)).alloc (.cells #[.string W, .int .i64 5, .int .i64 f, .int .i64 lo, .int .i64 (h : Int)] 51) = w2 at *
  clear k1
  refine later_start (w := w2) ?_
  intro u
  have j15 := fun u : Later w2 => u.cell (HX.out.cell 15 H15.out)
  have j4 := fun u : Later w2 => u.cell (HK.out.cell 4 rfl)
  cases b1
  · refine wp_region_later (by kernel_rfl) (by kernel_rfl) ?_
    repeat (go_big_quiet_step (fail))
    refine wpQuiet_nil ?_
    rintro _ ⟨u2, rfl⟩
    clear j15 j4
    go_wp2
    go_ret2
    exact ⟨a, cap, rfl, HT.out.up (up_trans HB.out u2.up), up_trans HB.out u2.up⟩
  · have HC := fun u : Later w2 => HN.out u.now (up_trans HB.out u.up)
    refine wp_region_later (by kernel_rfl) (by kernel_rfl) ?_
    repeat (go_big_quiet_step ((go_at_call 40; with_reducible exact Later.call (HC _))))
    refine wpQuiet_nil ?_
    rintro _ ⟨u2, rfl⟩
    clear j15 j4 HC
    go_wp2
    go_ret2
    exact ⟨a, cap, by simp, HT.out.up (up_trans HB.out u2.up), up_trans HB.out u2.up⟩
end

/-- What parts answers, of each key. -/
theorem parts_any {k : Ky} (hk : k ∈ keyL) (cs : List Value) (j : Jb) (w : World) (h : JobA w cs j) (hw : WfJ j) (hz : ∀ l ∈ j.ls, l.length ≤ 1000000000) (hls : j.ls.length ≤ 1000000) (hg : GoodM w) :
    Calls Tryz.prog 17 #[.agg cs.toArray, .agg (keyV k).toArray] w (GivesP (prtM k j).1 (prtM k j).2 w) := by
  have hl := h.length
  have hv := fun i (hi : i < 28) => h.num hi
  have h0 := h.title
  have hp := key_places k hk
  have hone := key_one k hk
  obtain ⟨kw, kd, kf, klo, khi⟩ := k
  simp only at hp hone
  unfold prtM
  simp only
  rcases key_kind _ hk with hd | hd | hd | hd | hd | hd
  all_goals simp only at hd; subst hd
  · rw [if_pos rfl]
    by_cases hT : 60 < j.t.length
    · rw [if_pos hT]
      exact parts_long cs (tx kw) kf klo khi w (tx j.t) hl h0 (by rw [tx_size]; exact hT)
    · rw [if_neg hT]
      exact parts_title cs (tx kw) kf klo khi w j.t hl h0 (by omega)
  · exact parts_nums cs (tx kw) klo w j.n kf khi hl hv hp.1 hw hg.1.1
  · exact parts_word cs (tx kw) klo khi w j.n kf 1 2 (.inl ⟨rfl, rfl⟩) (by omega) hl hv
  · exact parts_word cs (tx kw) klo khi w j.n kf 2 3 (.inr ⟨rfl, rfl⟩) (by omega) hl hv
  · obtain ⟨a, c, a', c', rfl, h1, h2⟩ := h
    exact parts_scheme _ (tx kw) kf klo khi w j.f a c rfl rfl rfl rfl h1 hg
  · obtain ⟨a, c, a', c', rfl, h1, h2⟩ := h
    exact parts_last _ (tx kw) kf klo w a' c' j.ls khi rfl rfl h2 hz hls
end Go.Proofs.YtenigkjonegdmaaGreatDoor
