/- Part 5 of the texts that the proofs of this seat share: PanelReadsK, BoxWithin, RefFirst, FirstAll, PanelTurnsK. -/
import Derived.Test.YtnmmmedflmdpbaaPart3
import Derived.Test.YtnmmmedflmdpbaaPart2
import Derived.Test.YtnmmmedflmdpbaaPart1
set_option linter.unusedSimpArgs false
set_option linter.unusedVariables false
namespace Go.Proofs.Ytnmmmedflmdpbaa
open Go.RowKit
set_option maxRecDepth 100000 in
set_option maxHeartbeats 4000000 in
theorem panReads_core (cs:List Value) (W H f s t a b bx by' x X Y z Q0 Q1 n push y1 S1 S2 T0 T1 T2 T3 C0 C1 C2 C3 D0 D1 D2:Int) (recto:Bool) (w:World) (hL:cs.length=33)
  (c9:cs[9]?=some (.int .i64 f)) (c10:cs[10]?=some (.int .i64 s)) (c8:cs[8]?=some (.int .i64 t)) (c4:cs[4]?=some (.int .i64 a)) (c5:cs[5]?=some (.int .i64 b)) (c2:cs[2]?=some (.int .i64 bx)) (c3:cs[3]?=some (.int .i64 by'))
  (ez:IntKind.i64.wrap (W-X)=z) (hx:(if recto=true then s else f)=x) (hq:(if recto=true then X else z)=Q0) (hq1:Y=Q1) (hp:(if recto=true then IntKind.i64.wrap (0-n) else n)=push)
  (es:IntKind.i64.wrap (x-bx)=y1) (e1:IntKind.i64.wrap (y1+push)=S1) (e2:IntKind.i64.wrap (t-by')=S2)
  (KA:∀ w1,Below w.heap.size w w1→Calls Try.prog 6 #[] w1 fun e w'=>e=.returned (.bool true)∧Below w1.heap.size w1 w')
  (KR:∀ w1,Calls Try.prog 7 #[.agg cs.toArray] w1 fun e w'=>e=.returned (.tuple #[.int .i64 W,.int .i64 H])∧Below w1.heap.size w1 w')
  (KS:∀ w1,Below w.heap.size w w1→Calls Try.prog 16 #[.agg cs.toArray,.bool recto,.int .i64 n] w1 fun e w'=>e=.returned (.agg #[.int .i64 0,.int .i64 S1,.int .i64 S2])∧Below w1.heap.size w1 w')
  (KT:∀ w1,Below w.heap.size w w1→Calls Try.prog 17 #[.agg cs.toArray,.bool recto] w1 fun e w'=>e=.returned (.agg #[.int .i64 T0,.int .i64 T1,.int .i64 T2,.int .i64 T3])∧Below w1.heap.size w1 w')
  (KC:∀ w1,Below w.heap.size w w1→Calls Try.prog 18 #[.agg cs.toArray,.bool recto] w1 fun e w'=>e=.returned (.agg #[.int .i64 C0,.int .i64 C1,.int .i64 C2,.int .i64 C3])∧Below w1.heap.size w1 w')
  (KD:∀ w1,Below w.heap.size w w1→Calls Try.prog 21 #[.agg cs.toArray,.bool recto] w1 fun e w'=>e=.returned (.agg #[.int .i64 D0,.int .i64 D1,.int .i64 D2])∧Below w1.heap.size w1 w')
  (KO:∀ w1,Calls Try.prog 13 #[.int .i64 x,.int .i64 t,.int .i64 a,.int .i64 b] w1 fun e w'=>e=.returned (.agg #[.int .i64 T0,.int .i64 T1,.int .i64 T2,.int .i64 T3])∧Below w1.heap.size w1 w')
  (KC2:∀ w1,Calls Try.prog 19 #[.agg cs.toArray,.bool recto] w1 fun e w'=>e=.returned (.agg #[.int .i64 C0,.int .i64 C1,.int .i64 C2,.int .i64 C3])∧Below w1.heap.size w1 w')
  (KD2:∀ w1,Calls Try.prog 20 #[.agg #[.int .i64 D0,.int .i64 D1,.int .i64 D2],.agg #[.int .i64 X,.int .i64 Y]] w1 fun e w'=>e=.returned (.agg #[.int .i64 Q0,.int .i64 Q1])∧Below w1.heap.size w1 w') :
  Calls Try.prog 4 #[.agg cs.toArray,.bool recto,.int .i64 n,.agg #[.int .i64 X,.int .i64 Y]] w fun e w'=>e=.returned (.bool true)∧Below w.heap.size w w':=by
 subst hq1
 have U1:=up_alloc (Below.refl w.heap.size w) (.cells cs.toArray 29)
 have U2:=up_alloc (Below.refl _ (w.alloc (.cells cs.toArray 29))) (.cells #[.int .i64 X,.int .i64 Y] 23)
 have HX:=Lib.hid ((Bx.new w 29 cs).later (by rw [hL];decide) U2)
 have Y0:=Bx.new (w.alloc (.cells cs.toArray 29)) 23 [.int .i64 X,.int .i64 Y]
 rw [World.size_alloc] at Y0
 have HY:=Lib.hid Y0
 have HB:=Lib.hid (up_trans U1 U2)
 have HL:=Lib.hid hL
 have H9:=Lib.hid c9;have H10:=Lib.hid c10;have H8:=Lib.hid c8;have H4:=Lib.hid c4;have H5:=Lib.hid c5;have H2:=Lib.hid c2;have H3:=Lib.hid c3
 have HA:=Lib.hid KA;have HR:=Lib.hid KR;have HS:=Lib.hid KS;have HT:=Lib.hid KT;have HC:=Lib.hid KC;have HD:=Lib.hid KD;have HO:=Lib.hid KO;have HC2:=Lib.hid KC2;have HD2:=Lib.hid KD2
 have EX:=Lib.hid hx;have EQ:=Lib.hid hq;have EP:=Lib.hid hp
 clear U1 U2 Y0 hL c9 c10 c8 c4 c5 c2 c3 KA KR KS KT KC KD KO KC2 KD2 hx hq hp
 go_enter Try.func4,Try.ntmps4
 go_wp2_with fail
 refine (HA.out _ HB.out).mono ?_
 rintro e w1 ⟨rfl,hb⟩
 have X1:=Lib.hid (HX.out.later (by rw [HL.out];decide) hb)
 have Y1:=HY.out.up hb
 have B1:=Lib.hid (up_trans HB.out hb)
 clear hb HX HY HB
 go_wp2_with (refine wpList_load_job rfl _ rfl w.heap.size rfl cs X1.out HL.out ?_;simp only [Act.put,List.setIfInBounds_toArray,List.set_cons_succ,List.set_cons_zero])
 refine (HR.out _).mono ?_
 rintro e w2 ⟨rfl,hb⟩
 have X2:=Lib.hid (X1.out.later (by rw [HL.out];decide) hb)
 have Y2:=Y1.up hb
 have B2:=Lib.hid (up_trans B1.out hb)
 have hlow:w.heap.size+1<w2.heap.size:=Y2.lt
 clear hb X1 Y1 B1
 go_wp2_with fail
 refine wp_region_boxes' 11 90 [(9,12)] [23] (fun _=>[.int .i64 0,.int .i64 0]) (by kernel_rfl) (by kernel_rfl) rfl (fun ty hty o ρ w' ho=>by simp only [List.mem_singleton] at hty;subst hty;simp [execOp,ho,go_sem])
  ⟨_,fun v0 h0 K HKK=>by
   have X3:=X2.out.later (by rw [HL.out];decide) h0
   have Y3:=Y2.up h0
   have j9:=fun u:Later v0=>u.cell (X3.cell 9 H9.out)
   have y0:=fun u:Later v0=>u.cell (Y3.cell 0 rfl);have y1:=fun u:Later v0=>u.cell (Y3.cell 1 rfl)
   clear X3 Y3
   simp only [List.take_succ_cons,List.take_zero,List.filter_cons,List.filter_nil,isAlloc,Bool.not_true,Bool.not_false,if_true,Bool.false_eq_true,if_false]
   repeat (go_big_quiet_step (fail))
   exact wpQuiet_nil (HKK.out _ rfl),?tail⟩
 case tail =>
  intro gf w5 h5 hg hne
  obtain ⟨lg,G⟩:=hg (9,12) (by simp) _ _ rfl rfl
  simp only [puts,List.drop_succ_cons,List.drop_zero] at lg G ⊢
  generalize gf 9=g at *
  clear hg hne
  refine wpList_store_mid rfl 23 _ _ rfl g 0 #[.int .i64 z,.int .i64 Y] rfl rfl G.present (by kernel_rfl) (by simp;exact ⟨rfl,rfl⟩) ?_
  have G5:=G.sets (ws:=[.int .i64 z,.int .i64 Y]) rfl
  have U5:=below_setCells lg [.int .i64 z,.int .i64 Y] 0 _ h5
  simp only [Act.put]
  refine wpList_nil ?_
  obtain ⟨w6,hw6⟩:∃ w6,w5.setCells g 0 [.int .i64 z,.int .i64 Y]=w6:=⟨_,rfl⟩
  rw [hw6] at G5 U5
  have X5:=X2.out.later (by rw [HL.out];decide) U5
  have Y5:=Y2.up U5
  have B5:=Lib.hid (up_trans B2.out U5)
  rename_i hK
  refine hK _ _ ?_
  rw [show w5.setCells g 0 (#[.int .i64 z,.int .i64 Y]:Array Value).toList=w6 from hw6]
  clear hw6 G U5 X2 Y2 B2 hK h5
  cases recto
  ·obtain rfl:f=x:=EX.out
   obtain rfl:z=Q0:=EQ.out
   obtain rfl:n=push:=EP.out
   have X6:=Lib.hid X5
   have Y6:=Y5
   have G6:=G5
   have B6:=B5
   clear X5 Y5 G5 B5
   go_wp2_with (refine wpList_load_job rfl _ rfl w.heap.size rfl cs X6.out HL.out ?_;simp only [Act.put,List.setIfInBounds_toArray,List.set_cons_succ,List.set_cons_zero])
   refine (HS.out _ B6.out).mono ?_
   rintro e w7 ⟨rfl,hb⟩
   have U7:=up_alloc (Below.refl _ w7) (.cells #[.int .i64 0,.int .i64 S1,.int .i64 S2] 40)
   have P7:=Bx.new w7 40 [.int .i64 0,.int .i64 S1,.int .i64 S2]
   have X7:=(X6.out.later (by rw [HL.out];decide) hb).later (by rw [HL.out];decide) U7
   have Y7:=(Y6.up hb).up U7
   have G7:=(G6.up hb).up U7
   have B7:=Lib.hid (up_trans (up_trans B6.out hb) U7)
   have b8:=X7.cell 8 H8.out;have b4:=X7.cell 4 H4.out;have b5:=X7.cell 5 H5.out;have b2:=X7.cell 2 H2.out;have b3:=X7.cell 3 H3.out
   go_wp2_with fail
   obtain ⟨w8,hw8⟩:∃ w8,w7.alloc (.cells #[.int .i64 0,.int .i64 S1,.int .i64 S2] 40)=w8:=⟨_,rfl⟩
   rw [hw8] at P7 X7 Y7 G7 B7 b8 b4 b5 b2 b3 ⊢
   have j8:=fun u:Later w8=>u.cell b8;have j4:=fun u:Later w8=>u.cell b4;have j5:=fun u:Later w8=>u.cell b5;have j2:=fun u:Later w8=>u.cell b2;have j3:=fun u:Later w8=>u.cell b3
   have y0:=fun u:Later w8=>u.cell (Y7.cell 0 rfl);have y1:=fun u:Later w8=>u.cell (Y7.cell 1 rfl)
   have g0:=fun u:Later w8=>u.cell (G7.cell 0 rfl);have g1:=fun u:Later w8=>u.cell (G7.cell 1 rfl)
   have p0:=fun u:Later w8=>u.cell (P7.cell 0 rfl);have p1:=fun u:Later w8=>u.cell (P7.cell 1 rfl);have p2:=fun u:Later w8=>u.cell (P7.cell 2 rfl)
   have HRG:=Lib.hid (later_range X7 (by rw [HL.out];decide))
   have k4:=fun w=>run_eq4 T0 T1 T2 T3 w
   have c4:=fun w=>run_eq4 C0 C1 C2 C3 w
   have k2:=fun w=>run_eq2 z Y w
   have k3:=fun w=>run_eq3 0 S1 S2 w
   clear hw8 P7 X7 Y7 G7 b8 b4 b5 b2 b3 U7 hb X6 Y6 G6 B6
   refine later_start (w:=w8) ?_
   intro y
   refine wp_region_later (by kernel_rfl) (by kernel_rfl) ?_
   repeat (first
    | (go_big_quiet_want;refine quiet_load_job _ rfl w.heap.size rfl cs HL.out HRG.out ?_;simp only [Act.put,List.setIfInBounds_toArray,List.set_cons_succ,List.set_cons_zero];go_big_quiet_on)
    | go_big_quiet_step (first
     | (go_at_call 17;with_reducible exact Later.call (HT.out _ (up_trans B7.out (Later.up _))))
     | (go_at_call 18;with_reducible exact Later.call (HC.out _ (up_trans B7.out (Later.up _))))
     | (go_at_call 21;with_reducible exact Later.call (HD.out _ (up_trans B7.out (Later.up _))))
     | (go_at_call 13;with_reducible exact Later.call (HO.out _))
     | (go_at_call 19;with_reducible exact Later.call (HC2.out _))
     | (go_at_call 20;with_reducible exact Later.call (HD2.out _))))
   refine wpQuiet_nil ?_
   rintro _ ⟨y2,rfl⟩
   have BB:=Lib.hid (up_trans B7.out y2.up)
   clear j8 j4 j5 j2 j3 y0 y1 g0 g1 p0 p1 p2
   go_wp2
   go_ret
   exact ⟨rfl,BB.out⟩
  ·obtain rfl:s=x:=EX.out
   obtain rfl:X=Q0:=EQ.out
   have en:IntKind.i64.wrap (0-n)=push:=EP.out
   have en2:IntKind.i64.wrap (-n)=push:=by rw [←en,Int.zero_sub]
   have g0:=G5.cell 0 rfl;have g1:=G5.cell 1 rfl;have gf:=G5.free
   have y0:=Y5.cell 0 rfl;have y1:=Y5.cell 1 rfl
   have b10:=X5.cell 10 H10.out
   have nx:g≠w.heap.size:=by omega
   have ny:g≠w.heap.size+1:=by omega
   have X6:=Lib.hid ((X5.far (p:=⟨g,0,none⟩) nx (.int .i64 X)).far (p:=⟨g,1,none⟩) nx (.int .i64 Y))
   have Y6:=(Y5.far (p:=⟨g,0,none⟩) ny (.int .i64 X)).far (p:=⟨g,1,none⟩) ny (.int .i64 Y)
   have G6:=(G5.set 0 (.int .i64 X)).set 1 (.int .i64 Y)
   have B6:=Lib.hid (up_set (up_set B5.out (p:=⟨g,0,none⟩) (by simp only;omega) (.int .i64 X)) (p:=⟨g,1,none⟩) (by simp only;omega) (.int .i64 Y))
   clear X5 Y5 G5 B5
   go_wp2_with (refine wpList_load_job rfl _ rfl w.heap.size rfl cs X6.out HL.out ?_;simp only [Act.put,List.setIfInBounds_toArray,List.set_cons_succ,List.set_cons_zero])
   refine (HS.out _ B6.out).mono ?_
   rintro e w7 ⟨rfl,hb⟩
   have U7:=up_alloc (Below.refl _ w7) (.cells #[.int .i64 0,.int .i64 S1,.int .i64 S2] 40)
   have P7:=Bx.new w7 40 [.int .i64 0,.int .i64 S1,.int .i64 S2]
   have X7:=(X6.out.later (by rw [HL.out];decide) hb).later (by rw [HL.out];decide) U7
   have Y7:=(Y6.up hb).up U7
   have G7:=(G6.up hb).up U7
   have B7:=Lib.hid (up_trans (up_trans B6.out hb) U7)
   have b8:=X7.cell 8 H8.out;have b4:=X7.cell 4 H4.out;have b5:=X7.cell 5 H5.out;have b2:=X7.cell 2 H2.out;have b3:=X7.cell 3 H3.out
   go_wp2_with fail
   obtain ⟨w8,hw8⟩:∃ w8,w7.alloc (.cells #[.int .i64 0,.int .i64 S1,.int .i64 S2] 40)=w8:=⟨_,rfl⟩
   rw [hw8] at P7 X7 Y7 G7 B7 b8 b4 b5 b2 b3 ⊢
   have j8:=fun u:Later w8=>u.cell b8;have j4:=fun u:Later w8=>u.cell b4;have j5:=fun u:Later w8=>u.cell b5;have j2:=fun u:Later w8=>u.cell b2;have j3:=fun u:Later w8=>u.cell b3
   have y0:=fun u:Later w8=>u.cell (Y7.cell 0 rfl);have y1:=fun u:Later w8=>u.cell (Y7.cell 1 rfl)
   have g0:=fun u:Later w8=>u.cell (G7.cell 0 rfl);have g1:=fun u:Later w8=>u.cell (G7.cell 1 rfl)
   have p0:=fun u:Later w8=>u.cell (P7.cell 0 rfl);have p1:=fun u:Later w8=>u.cell (P7.cell 1 rfl);have p2:=fun u:Later w8=>u.cell (P7.cell 2 rfl)
   have HRG:=Lib.hid (later_range X7 (by rw [HL.out];decide))
   have k4:=fun w=>run_eq4 T0 T1 T2 T3 w
   have c4:=fun w=>run_eq4 C0 C1 C2 C3 w
   have k2:=fun w=>run_eq2 X Y w
   have k3:=fun w=>run_eq3 0 S1 S2 w
   clear hw8 P7 X7 Y7 G7 b8 b4 b5 b2 b3 U7 hb X6 Y6 G6 B6
   refine later_start (w:=w8) ?_
   intro y
   refine wp_region_later (by kernel_rfl) (by kernel_rfl) ?_
   repeat (first
    | (go_big_quiet_want;refine quiet_load_job _ rfl w.heap.size rfl cs HL.out HRG.out ?_;simp only [Act.put,List.setIfInBounds_toArray,List.set_cons_succ,List.set_cons_zero];go_big_quiet_on)
    | go_big_quiet_step (first
     | (go_at_call 17;with_reducible exact Later.call (HT.out _ (up_trans B7.out (Later.up _))))
     | (go_at_call 18;with_reducible exact Later.call (HC.out _ (up_trans B7.out (Later.up _))))
     | (go_at_call 21;with_reducible exact Later.call (HD.out _ (up_trans B7.out (Later.up _))))
     | (go_at_call 13;with_reducible exact Later.call (HO.out _))
     | (go_at_call 19;with_reducible exact Later.call (HC2.out _))
     | (go_at_call 20;with_reducible exact Later.call (HD2.out _))))
   refine wpQuiet_nil ?_
   rintro _ ⟨y2,rfl⟩
   have BB:=Lib.hid (up_trans B7.out y2.up)
   clear j8 j4 j5 j2 j3 y0 y1 g0 g1 p0 p1 p2
   go_wp2
   go_ret
   exact ⟨rfl,BB.out⟩
theorem read_do (m:Nat→Int) (recto:Bool) (X Y:Int) (hX:I64 X) (hY:I64 Y):pdo (readP m recto).1 (readP m recto).2.1 (readP m recto).2.2 X Y=(if recto=true then X else w64 (sizW m-X),Y):=by
 have hy:w64 (Y+0)=Y:=by rw [Int.add_zero];exact w64_self hY
 cases recto
 ·refine Prod.ext_iff.2 ⟨?_,hy⟩
  show w64 (w64 (-X)+sizW m)=w64 (sizW m-X)
  rw [w64_addL]
  congr 1
  omega
 ·refine Prod.ext_iff.2 ⟨?_,hy⟩
  show w64 (X+0)=X
  rw [Int.add_zero]
  exact w64_self hX
theorem source_eq (m:Nat→Int) (recto:Bool) (q:Int):IntKind.i64.wrap (IntKind.i64.wrap (fromP m recto-m 1)+(if recto=true then IntKind.i64.wrap (0-q) else q))=(sourceP m recto q).2.1:=by
 show w64 (w64 (fromP m recto-m 1)+_)=w64 _
 rw [w64_addL]
 cases recto
 ·rfl
 ·simp only [if_true]
  rw [w64_def,w64_addR,Int.zero_sub]
theorem walkPanelReadsK (KS:PanSize) (KL:PanLies) (KT:PanTrim) (KC:PanClip) (KD:PanReader) (KO:PanSource) (cs:List Value) (j:Jb) (recto:Bool) (n:Int) (X Y:Int) (w:World) (h:(JobA w cs j∧j.t.length≤maxLen∧∀ p∈j.ls,p.length≤maxLen)∧(∀ i,-9223372036854775808≤j.n i∧j.n i≤9223372036854775807)) (y0:(Lit.int .i64 n).wf=true) (p0:(Lit.int .i64 X).wf=true) (p1:(Lit.int .i64 Y).wf=true) :
  Calls Try.prog 4 #[.agg cs.toArray,.bool recto,.int .i64 n,.agg #[.int .i64 X,.int .i64 Y]] w fun e w'=>e=.returned (.bool true)∧Below w.heap.size w w':=by
 have hJ:=h.1.1
 have hN:=hJ.numC
 have hL:=hJ.length
 have KD2:=fun w1=>refPdo_any (readP j.n recto).1 (readP j.n recto).2.1 (readP j.n recto).2.2 X Y w1 (wf_i64 p0).1 (wf_i64 p0).2 (wf_i64 p1).1 (wf_i64 p1).2
 rw [read_do j.n recto X Y (wf_i64 p0) (wf_i64 p1)] at KD2
 exact panReads_core cs (sizW j.n) (sizH j.n) (j.n 8) (j.n 9) (j.n 7) (j.n 3) (j.n 4) (j.n 1) (j.n 2) (fromP j.n recto) X Y (w64 (sizW j.n-X)) (if recto=true then X else w64 (sizW j.n-X)) Y n (if recto=true then IntKind.i64.wrap (0-n) else n) _ _ _
  (trimP j.n recto).1 (trimP j.n recto).2.1 (trimP j.n recto).2.2.1 (trimP j.n recto).2.2.2 (clipP j.n recto).1 (clipP j.n recto).2.1 (clipP j.n recto).2.2.1 (clipP j.n recto).2.2.2 (readP j.n recto).1 (readP j.n recto).2.1 (readP j.n recto).2.2 recto w hL
  (hN 8 (by decide)) (hN 9 (by decide)) (hN 7 (by decide)) (hN 3 (by decide)) (hN 4 (by decide)) (hN 1 (by decide)) (hN 2 (by decide)) rfl rfl rfl rfl rfl rfl (source_eq j.n recto n) rfl
  (fun w1 hb=>panAlive_any KS KL KT w1) (fun w1=>refSize_any cs j.n w1 hN) (fun w1 hb=>KO cs j recto n w1 (hJ.up hb) (wf_i64 y0)) (fun w1 hb=>KT cs j recto w1 (hJ.up hb)) (fun w1 hb=>KC cs j recto w1 (hJ.up hb) h.2) (fun w1 hb=>KD cs j recto w1 (hJ.up hb))
  (fun w1=>refRectOf_any (fromP j.n recto) (j.n 7) (j.n 3) (j.n 4) w1) (fun w1=>refClip_any cs j.n recto w1 hN hL) KD2
theorem refWithin_any (a0 a1 a2 a3 b0 b1 b2 b3:Int) (w:World) :
  Calls Try.prog 24 #[.agg #[.int .i64 a0,.int .i64 a1,.int .i64 a2,.int .i64 a3],.agg #[.int .i64 b0,.int .i64 b1,.int .i64 b2,.int .i64 b3]] w fun e w'=>e=.returned (.bool (withinR a0 a1 a2 a3 b0 b1 b2 b3))∧Below w.heap.size w w':=by
 have KE:=fun w=>refEmpty_any a0 a1 a2 a3 w
 obtain ⟨V,hV⟩:∃ V,withinR a0 a1 a2 a3 b0 b1 b2 b3=V:=⟨_,rfl⟩
 rw [hV]
 unfold withinR at hV
 generalize emp4 a0 a1 a2 a3=E at *
 have HE:=Lib.hid KE
 clear KE
 cases E
 ·rw [Bool.false_or] at hV
  by_cases g0:b0≤a0<;>by_cases g1:a2≤b2<;>by_cases g2:b1≤a1<;>by_cases g3:a3≤b3
  all_goals
   simp [g0,g1,g2,g3] at hV
   subst hV
   go_enter Try.func24,Try.ntmps24
   go_wp2_with (go_at_call 44;refine (HE.out _).mono ?_;rintro e w' ⟨rfl,rfl⟩)
   go_ret
   exact ⟨ret_boolB (by first | rfl | (simp;omega)),up_alloc (up_alloc (up_alloc (Below.refl _ _) _) _) _⟩
 ·simp at hV
  subst hV
  go_enter Try.func24,Try.ntmps24
  go_wp2_with (go_at_call 44;refine (HE.out _).mono ?_;rintro e w' ⟨rfl,rfl⟩)
  go_ret
  exact ⟨rfl,up_alloc (up_alloc (up_alloc (Below.refl _ _) _) _) _⟩
theorem enc_nums (n:Nat→Int) {k:Nat} (hk:k<28):(enc (numsL n))[k]?=some (.int .i64 (n k)):=by
 unfold enc
 rw [List.getElem?_map,numsL_at n hk];rfl
theorem enc_from {k:Nat} (hk:k<28):(enc fromL)[k]?=some (.int .i64 (lowJ k)):=by
 unfold enc
 rw [List.getElem?_map,low_at hk];rfl
theorem enc_to {k:Nat} (hk:k<28):(enc toL)[k]?=some (.int .i64 (topJ k)):=by
 unfold enc
 rw [List.getElem?_map,top_at hk];rfl
def RefFirstRel (w:World) (n:Nat→Int) (i:Value) (wr:World):Prop:=∃ k:Nat,k≤28∧i=.int .i64 (k:Int)∧Hid (∀ j,j<k→okJ n j=true)∧∃ u:Later w,wr=u.now
set_option maxHeartbeats 1000000 in
theorem refFirst_any (cs:List Value) (n:Nat→Int) (w:World) (hl:cs.length=33) (hv:∀ k,k<28→cs[cellJ k]?=some (.int .i64 (n k))) :
  Calls Try.prog 22 #[.agg cs.toArray] w fun e w'=>e=.returned (.int .i64 (firstJ n))∧Below w.heap.size w w':=by
 have HB:=Lib.hid (up_alloc (Below.refl w.heap.size w) (.cells cs.toArray 29))
 have HX:=Lib.hid (Bx.new w 29 cs)
 have HL:=Lib.hid hl
 have HA:=Lib.hid (fun w1=>refAll_any cs n w1 hv)
 have HF:=Lib.hid (fun (k:Nat) (hk:k<28) (h:∀ j,j<k→okJ n j=true) (h0:okJ n k=false)=>firstJ_at hk h h0)
 have HZ:=Lib.hid (fun h=>firstJ_none (n:=n) h)
 generalize firstJ n=F at *
 clear hv hl
 go_enter Try.func22,Try.ntmps22
 go_wp2_with (refine wpList_load_job rfl _ rfl w.heap.size rfl cs HX.out HL.out ?_;simp only [Act.put,List.setIfInBounds_toArray,List.set_cons_succ,List.set_cons_zero])
 refine (HA.out _).mono ?_
 rintro e w1 ⟨g1,rfl,-,L1,hb⟩
 have HB1:=Lib.hid (up_trans HB.out hb)
 clear hb
 go_wp2_with fail
 refine (refFrom_any _).mono ?_
 rintro e w2 ⟨g2,rfl,-,L2,hb⟩
 have HB2:=Lib.hid (up_trans HB1.out hb)
 have M1:=Bx.up L1 hb
 clear hb L1
 go_wp2_with fail
 refine (refTo_any _).mono ?_
 rintro e w3 ⟨g3,rfl,-,L3,hb⟩
 have HB3:=Lib.hid (up_trans HB2.out hb)
 have N1:=Lib.hid (Bx.up M1 hb)
 have N2:=Lib.hid (Bx.up L2 hb)
 have N3:=Lib.hid L3
 clear hb M1 L2 L3
 go_wp2
 go_loopw [6] (fun i wr=>RefFirstRel w3 n i wr) (fun i _=>28-(intOf i).toNat)
 case atStart=>exact ⟨0,by omega,by go_num,Lib.hid (fun j hj=>absurd hj (Nat.not_lt_zero _)),⟨w3,Below.refl _ _⟩,rfl⟩
 case round =>
  obtain ⟨k,hk,rfl,HA,u,rfl⟩:=hrel
  by_cases hlt:k<28
  ·have c1:=fun u:Later w3=>u.cell (N1.out.cell k (enc_nums n hlt))
   have c2:=fun u:Later w3=>u.cell (N2.out.cell k (enc_from hlt))
   have c3:=fun u:Later w3=>u.cell (N3.out.cell k (enc_to hlt))
   have z0:(0:Int)≤(k:Int):=by omega
   have z1:(k:Int)<28:=by omega
   have HOk:okJ n k=(decide (lowJ k≤n k)&&decide (n k≤topJ k)):=rfl
   obtain ⟨v,hvv⟩:∃ v,n k=v:=⟨_,rfl⟩
   obtain ⟨lo,hlo⟩:∃ v,lowJ k=v:=⟨_,rfl⟩
   obtain ⟨hi,hhi⟩:∃ v,topJ k=v:=⟨_,rfl⟩
   rw [hvv,hlo,hhi] at HOk
   rw [hvv] at c1
   rw [hlo] at c2
   rw [hhi] at c3
   have HO:=Lib.hid HOk
   clear HOk hvv hlo hhi
   go_wp2_with fail
   by_cases h1:v<lo
   ·have q1:decide (v<lo)=true:=decide_eq_true h1
    refine wp_region_later (by kernel_rfl) (by kernel_rfl) ?_
    repeat (go_big_quiet_step (fail))
    refine wpQuiet_nil ?_
    rintro _ ⟨u2,rfl⟩
    clear c1 c2 c3
    go_wp2
    go_ret
    exact ⟨by rw [HF.out k hlt HA.out (by rw [HO.out,decide_eq_false (by omega)];rfl)];rfl,up_trans HB3.out u2.up⟩
   ·have q1:decide (v<lo)=false:=decide_eq_false h1
    by_cases h2:hi<v
    ·have q2:decide (hi<v)=true:=decide_eq_true h2
     refine wp_region_later (by kernel_rfl) (by kernel_rfl) ?_
     repeat (go_big_quiet_step (fail))
     refine wpQuiet_nil ?_
     rintro _ ⟨u2,rfl⟩
     clear c1 c2 c3
     go_wp2
     go_ret
     exact ⟨by rw [HF.out k hlt HA.out (by rw [HO.out,decide_eq_false (show ¬ v≤hi by omega),Bool.and_false])];rfl,up_trans HB3.out u2.up⟩
    ·have q2:decide (hi<v)=false:=decide_eq_false h2
     refine wp_region_later (by kernel_rfl) (by kernel_rfl) ?_
     repeat (go_big_quiet_step (fail))
     refine wpQuiet_nil ?_
     rintro _ ⟨u2,rfl⟩
     clear c1 c2 c3
     have HA2:=Lib.hid (okJ_snoc HA.out (by rw [HO.out,decide_eq_true (show lo≤v by omega),decide_eq_true (show v≤hi by omega)];rfl))
     go_wp2
     go_roundw
     case rel=>exact ⟨k+1,by omega,by go_num,HA2,u2,rfl⟩
     case measure=>simp [intOf];omega
  ·have hk2:k=28:=by omega
   subst hk2
   go_wp2
   go_ret
   exact ⟨by rw [HZ.out HA.out];rfl,up_trans HB3.out u.up⟩
end Go.Proofs.Ytnmmmedflmdpbaa
namespace Go.Proofs.Ytnmmmedflmdpbaa
theorem first_all {n:Nat→Int} (h:firstJ n<0) (i:Nat) (hi:i<28):lowJ i≤n i∧n i≤topJ i:=by
 unfold firstJ at h
 split at h
 ·omega
 next hf =>
  have:=List.find?_eq_none.1 hf i (List.mem_range.2 hi)
  simpa [okJ] using this
end Go.Proofs.Ytnmmmedflmdpbaa
namespace Go.Proofs.Ytnmmmedflmdpbaa
open Go.RowKit
set_option maxRecDepth 100000 in
set_option maxHeartbeats 4000000 in
theorem panTurns_core (cs:List Value) (F D0 D1 D2 S0 S1 S2 S3 T0 T1 T2 T3 C0 C1 C2 C3 E0 E1 E2 E3:Int) (u:Bool) (w:World) (hL:cs.length=33) (hu:decide (0≤F)=u)
  (KA:∀ w1,Below w.heap.size w w1→Calls Try.prog 6 #[] w1 fun e w'=>e=.returned (.bool true)∧Below w1.heap.size w1 w')
  (KF:∀ w1,Calls Try.prog 22 #[.agg cs.toArray] w1 fun e w'=>e=.returned (.int .i64 F)∧Below w1.heap.size w1 w')
  (KD:∀ w1,Below w.heap.size w w1→Calls Try.prog 21 #[.agg cs.toArray,.bool false] w1 fun e w'=>e=.returned (.agg #[.int .i64 D0,.int .i64 D1,.int .i64 D2])∧Below w1.heap.size w1 w')
  (KS:∀ w1,Below w.heap.size w w1→Calls Try.prog 17 #[.agg cs.toArray,.bool false] w1 fun e w'=>e=.returned (.agg #[.int .i64 S0,.int .i64 S1,.int .i64 S2,.int .i64 S3])∧Below w1.heap.size w1 w')
  (KT:∀ w1,Below w.heap.size w w1→Calls Try.prog 17 #[.agg cs.toArray,.bool true] w1 fun e w'=>e=.returned (.agg #[.int .i64 T0,.int .i64 T1,.int .i64 T2,.int .i64 T3])∧Below w1.heap.size w1 w')
  (KC:∀ w1,Below w.heap.size w w1→Calls Try.prog 18 #[.agg cs.toArray,.bool false] w1 fun e w'=>e=.returned (.agg #[.int .i64 C0,.int .i64 C1,.int .i64 C2,.int .i64 C3])∧Below w1.heap.size w1 w')
  (KE:∀ w1,Below w.heap.size w w1→Calls Try.prog 18 #[.agg cs.toArray,.bool true] w1 fun e w'=>e=.returned (.agg #[.int .i64 E0,.int .i64 E1,.int .i64 E2,.int .i64 E3])∧Below w1.heap.size w1 w')
  (K1:u=false→∀ w1,Calls Try.prog 23 #[.agg #[.int .i64 D0,.int .i64 D1,.int .i64 D2],.agg #[.int .i64 S0,.int .i64 S1,.int .i64 S2,.int .i64 S3]] w1 fun e w'=>e=.returned (.agg #[.int .i64 T0,.int .i64 T1,.int .i64 T2,.int .i64 T3])∧Below w1.heap.size w1 w')
  (K2:u=false→∀ w1,Calls Try.prog 23 #[.agg #[.int .i64 D0,.int .i64 D1,.int .i64 D2],.agg #[.int .i64 C0,.int .i64 C1,.int .i64 C2,.int .i64 C3]] w1 fun e w'=>e=.returned (.agg #[.int .i64 E0,.int .i64 E1,.int .i64 E2,.int .i64 E3])∧Below w1.heap.size w1 w')
  (K3:u=false→∀ w1,Calls Try.prog 24 #[.agg #[.int .i64 T0,.int .i64 T1,.int .i64 T2,.int .i64 T3],.agg #[.int .i64 E0,.int .i64 E1,.int .i64 E2,.int .i64 E3]] w1 fun e w'=>e=.returned (.bool true)∧Below w1.heap.size w1 w') :
  Calls Try.prog 5 #[.agg cs.toArray] w fun e w'=>e=.returned (.bool true)∧Below w.heap.size w w':=by
 have HX:=Lib.hid (Bx.new w 29 cs)
 have HB:=Lib.hid (up_alloc (Below.refl w.heap.size w) (.cells cs.toArray 29))
 have HL:=Lib.hid hL
 have HA:=Lib.hid KA;have HF:=Lib.hid KF;have HD:=Lib.hid KD;have HS:=Lib.hid KS;have HT:=Lib.hid KT;have HC:=Lib.hid KC;have HE:=Lib.hid KE;have H1:=Lib.hid K1;have H2:=Lib.hid K2;have H3:=Lib.hid K3
 clear hL KA KF KD KS KT KC KE K1 K2 K3
 go_enter Try.func5,Try.ntmps5
 go_wp2_with fail
 refine (HA.out _ HB.out).mono ?_
 rintro e w1 ⟨rfl,hb⟩
 have X1:=Lib.hid (HX.out.later (by rw [HL.out];decide) hb)
 have B1:=Lib.hid (up_trans HB.out hb)
 clear hb HX HB
 go_wp2_with (refine wpList_load_job rfl _ rfl w.heap.size rfl cs X1.out HL.out ?_;simp only [Act.put,List.setIfInBounds_toArray,List.set_cons_succ,List.set_cons_zero])
 refine (HF.out _).mono ?_
 rintro e w2 ⟨rfl,hb⟩
 have X2:=Lib.hid (X1.out.later (by rw [HL.out];decide) hb)
 have B2:=Lib.hid (up_trans B1.out hb)
 clear hb X1 B1
 cases u
 ·have KX:=H1.out (by trivial)
  have KY:=H2.out (by trivial)
  have KZ:=H3.out (by trivial)
  have HX1:=Lib.hid KX;have HX2:=Lib.hid KY;have HX3:=Lib.hid KZ
  clear KX KY KZ H1 H2 H3
  go_wp2_with (refine wpList_load_job rfl _ rfl w.heap.size rfl cs X2.out HL.out ?_;simp only [Act.put,List.setIfInBounds_toArray,List.set_cons_succ,List.set_cons_zero])
  refine (HD.out _ B2.out).mono ?_
  rintro e w3 ⟨rfl,hb⟩
  have U3:=up_alloc (Below.refl _ w3) (.cells #[.int .i64 D0,.int .i64 D1,.int .i64 D2] 40)
  have P3:=Bx.new w3 40 [.int .i64 D0,.int .i64 D1,.int .i64 D2]
  have X3:=(X2.out.later (by rw [HL.out];decide) hb).later (by rw [HL.out];decide) U3
  have B3:=Lib.hid (up_trans (up_trans B2.out hb) U3)
  clear hb U3 X2 B2
  go_wp2_with fail
  obtain ⟨w4,hw4⟩:∃ w4,w3.alloc (.cells #[.int .i64 D0,.int .i64 D1,.int .i64 D2] 40)=w4:=⟨_,rfl⟩
  rw [hw4] at P3 X3 B3 ⊢
  have p0:=fun u:Later w4=>u.cell (P3.cell 0 rfl);have p1:=fun u:Later w4=>u.cell (P3.cell 1 rfl);have p2:=fun u:Later w4=>u.cell (P3.cell 2 rfl)
  have HRG:=Lib.hid (later_range X3 (by rw [HL.out];decide))
  have k4:=fun w=>run_eq4 T0 T1 T2 T3 w
  have k5:=fun w=>run_eq4 E0 E1 E2 E3 w
  clear hw4 P3 X3
  refine later_start (w:=w4) ?_
  intro y
  refine wp_region_later (by kernel_rfl) (by kernel_rfl) ?_
  repeat (first
   | (go_big_quiet_want;refine quiet_load_job _ rfl w.heap.size rfl cs HL.out HRG.out ?_;simp only [Act.put,List.setIfInBounds_toArray,List.set_cons_succ,List.set_cons_zero];go_big_quiet_on)
   | go_big_quiet_step (first
    | (go_at_call 17;first | with_reducible exact Later.call (HS.out _ (up_trans B3.out (Later.up _))) | with_reducible exact Later.call (HT.out _ (up_trans B3.out (Later.up _))))
    | (go_at_call 18;first | with_reducible exact Later.call (HC.out _ (up_trans B3.out (Later.up _))) | with_reducible exact Later.call (HE.out _ (up_trans B3.out (Later.up _))))
    | (go_at_call 23;first | with_reducible exact Later.call (HX1.out _) | with_reducible exact Later.call (HX2.out _))
    | (go_at_call 24;with_reducible exact Later.call (HX3.out _))))
  refine wpQuiet_nil ?_
  rintro _ ⟨y2,rfl⟩
  have BB:=Lib.hid (up_trans B3.out y2.up)
  clear p0 p1 p2
  go_wp2
  go_ret
  exact ⟨rfl,BB.out⟩
 ·clear H1 H2 H3
  go_wp2
  go_ret
  exact ⟨rfl,B2.out⟩
theorem pan_nums {m:Nat→Int} (h:firstJ m<0):(1≤m 3∧m 3≤5000000)∧(1≤m 4∧m 4≤5000000)∧(0≤m 5∧m 5≤5000000)∧(0≤m 6∧m 6≤5000000)∧(0≤m 7∧m 7≤5000000)∧(0≤m 8∧m 8≤5000000)∧(0≤m 9∧m 9≤5000000) :=
 ⟨first_all h 3 (by decide),first_all h 4 (by decide),first_all h 5 (by decide),first_all h 6 (by decide),first_all h 7 (by decide),first_all h 8 (by decide),first_all h 9 (by decide)⟩
theorem small64 {x:Int} (h:-1000000000000≤x∧x≤1000000000000):w64 x=x:=w64_self (by omega)
theorem read_box (W a b c d:Int) (hW:0≤W∧W≤100000000000) (ha:0≤a+10000000∧a≤c) (hc:c≤100000000000) (hb:0≤b+10000000∧b≤d) (hd:d≤100000000000) :
  (min (pdo 4 W 0 a b).1 (pdo 4 W 0 c d).1,min (pdo 4 W 0 a b).2 (pdo 4 W 0 c d).2,max (pdo 4 W 0 a b).1 (pdo 4 W 0 c d).1,max (pdo 4 W 0 a b).2 (pdo 4 W 0 c d).2)=(W-c,b,W-a,d):=by
 have hp:∀ x y,-1000000000≤x∧x≤100000000000→-1000000000≤y∧y≤100000000000→pdo 4 W 0 x y=(W-x,y):=fun x y hx hy=>by
  refine Prod.ext_iff.2 ⟨?_,?_⟩
  ·show w64 (w64 (-x)+W)=W-x
   rw [w64_addL,small64 (by omega)]
   omega
  ·show w64 (y+0)=y
   rw [small64 (by omega)]
   omega
 rw [hp a b (by omega) (by omega),hp c d (by omega) (by omega)]
 simp only [Prod.mk.injEq]
 omega
theorem turns_facts {m:Nat→Int} (h:firstJ m<0):sizW m=m 9+m 3+m 8∧trimP m false=(m 8,m 7,m 8+m 3,m 7+m 4)∧trimP m true=(m 9,m 7,m 9+m 3,m 7+m 4)
  ∧ clipP m false=(m 8-m 5,m 7-m 5,m 8+m 3,m 7+m 4+m 5)∧clipP m true=(m 9,m 7-m 5,m 9+m 3+m 5,m 7+m 4+m 5):=by
 obtain ⟨h3,h4,h5,h6,h7,h8,h9⟩:=pan_nums h
 refine ⟨small64 (by omega),?_,?_,?_,?_⟩
 ·unfold trimP fromP
  simp only [Bool.false_eq_true,if_false]
  rw [small64 (by omega),small64 (by omega)]
 ·unfold trimP fromP
  simp only [if_true]
  rw [small64 (by omega),small64 (by omega)]
 ·unfold clipP
  simp only [Bool.false_eq_true,if_false]
  rw [small64 (by omega),small64 (by omega),small64 (by omega),small64 (by omega)]
 ·unfold clipP
  simp only [if_true]
  rw [small64 (by omega),small64 (by omega),small64 (by omega)]
theorem wf_small {x:Int} (h:-1000000000000≤x∧x≤1000000000000):(Lit.int .i64 x).wf=true:=by
 simp [Lit.wf,IntKind.min,IntKind.max,IntKind.bits,IntKind.signed]
 omega
theorem walkPanelTurnsK (KS:PanSize) (KL:PanLies) (KT:PanTrim) (KC:PanClip) (KD:PanReader) (cs:List Value) (j:Jb) (w:World) (h:(JobA w cs j∧j.t.length≤maxLen∧∀ p∈j.ls,p.length≤maxLen)∧(∀ i,-9223372036854775808≤j.n i∧j.n i≤9223372036854775807)) :
  Calls Try.prog 5 #[.agg cs.toArray] w fun e w'=>e=.returned (.bool true)∧Below w.heap.size w w':=by
 have hJ:=h.1.1
 have hN:=hJ.numC
 have hL:=hJ.length
 refine panTurns_core cs (firstJ j.n) 4 (sizW j.n) 0 (trimP j.n false).1 (trimP j.n false).2.1 (trimP j.n false).2.2.1 (trimP j.n false).2.2.2 (trimP j.n true).1 (trimP j.n true).2.1 (trimP j.n true).2.2.1 (trimP j.n true).2.2.2
  (clipP j.n false).1 (clipP j.n false).2.1 (clipP j.n false).2.2.1 (clipP j.n false).2.2.2 (clipP j.n true).1 (clipP j.n true).2.1 (clipP j.n true).2.2.1 (clipP j.n true).2.2.2 _ w hL rfl
  (fun w1 hb=>panAlive_any KS KL KT w1) (fun w1=>refFirst_any cs j.n w1 hL hN) (fun w1 hb=>KD cs j false w1 (hJ.up hb)) (fun w1 hb=>KT cs j false w1 (hJ.up hb)) (fun w1 hb=>KT cs j true w1 (hJ.up hb)) (fun w1 hb=>KC cs j false w1 (hJ.up hb) h.2) (fun w1 hb=>KC cs j true w1 (hJ.up hb) h.2)
  (fun hu w1=>?_) (fun hu w1=>?_) (fun hu w1=>?_)
 all_goals
  simp only [decide_eq_false_iff_not] at hu
  obtain ⟨f1,f2,f3,f4,f5⟩:=turns_facts (m:=j.n) (by omega)
  obtain ⟨h3,h4,h5,h6,h7,h8,h9⟩:=pan_nums (m:=j.n) (by omega)
 ·rw [f1,f2,f3]
  have K:=refPbox_any 4 (j.n 9+j.n 3+j.n 8) 0 (j.n 8) (j.n 7) (j.n 8+j.n 3) (j.n 7+j.n 4) w1 (wf_small (by omega)) (wf_small (by omega)) (wf_small (by omega)) (wf_small (by omega))
  have e:=read_box (j.n 9+j.n 3+j.n 8) (j.n 8) (j.n 7) (j.n 8+j.n 3) (j.n 7+j.n 4) (by omega) (by omega) (by omega) (by omega) (by omega)
  simp only [Prod.mk.injEq] at e
  rw [e.1,e.2.1,e.2.2.1,e.2.2.2,show j.n 9+j.n 3+j.n 8-(j.n 8+j.n 3)=j.n 9 by omega,show j.n 9+j.n 3+j.n 8-j.n 8=j.n 9+j.n 3 by omega] at K
  exact K
 ·rw [f1,f4,f5]
  have K:=refPbox_any 4 (j.n 9+j.n 3+j.n 8) 0 (j.n 8-j.n 5) (j.n 7-j.n 5) (j.n 8+j.n 3) (j.n 7+j.n 4+j.n 5) w1 (wf_small (by omega)) (wf_small (by omega)) (wf_small (by omega)) (wf_small (by omega))
  have e:=read_box (j.n 9+j.n 3+j.n 8) (j.n 8-j.n 5) (j.n 7-j.n 5) (j.n 8+j.n 3) (j.n 7+j.n 4+j.n 5) (by omega) (by omega) (by omega) (by omega) (by omega)
  simp only [Prod.mk.injEq] at e
  rw [e.1,e.2.1,e.2.2.1,e.2.2.2,show j.n 9+j.n 3+j.n 8-(j.n 8+j.n 3)=j.n 9 by omega,show j.n 9+j.n 3+j.n 8-(j.n 8-j.n 5)=j.n 9+j.n 3+j.n 5 by omega] at K
  exact K
 ·rw [f3,f5]
  have K:=refWithin_any (j.n 9) (j.n 7) (j.n 9+j.n 3) (j.n 7+j.n 4) (j.n 9) (j.n 7-j.n 5) (j.n 9+j.n 3+j.n 5) (j.n 7+j.n 4+j.n 5) w1
  rw [show withinR (j.n 9) (j.n 7) (j.n 9+j.n 3) (j.n 7+j.n 4) (j.n 9) (j.n 7-j.n 5) (j.n 9+j.n 3+j.n 5) (j.n 7+j.n 4+j.n 5)=true by
   unfold withinR
   simp only [Bool.or_eq_true,Bool.and_eq_true,decide_eq_true_eq]
   omega] at K
  exact K
end Go.Proofs.Ytnmmmedflmdpbaa
