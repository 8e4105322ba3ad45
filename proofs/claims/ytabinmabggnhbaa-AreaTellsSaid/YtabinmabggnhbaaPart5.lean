/- Part 5 of the texts that the proofs of this seat share: RefAreaAt, BoxWithin, RefAreaBack, RefBlocks, AreaSpec, AreaTellsK, AreaRoom. -/
import Derived.Test.YtabinmabggnhbaaPart4
import Derived.Test.YtabinmabggnhbaaPart2
import Derived.Test.YtabinmabggnhbaaPart1
set_option linter.unusedSimpArgs false
set_option linter.unusedVariables false
namespace Go.Proofs.Ytabinmabggnhbaa
open Go.RowKit
set_option maxRecDepth 100000 in
set_option maxHeartbeats 4000000 in
theorem refAt_core (cs:List Value) (c r q a b R0 R1 R2 R3 rx ry tx ty hx hy X0 Y0 X1 Y1 o1 o2:Int) (sa:Option Addr) (sn sc:Nat) (w:World) (hL:cs.length=33) (c25:cs[25]?=some (.int .i64 q)) (hq:q=0∨q=1∨q=2∨q=3)
  (e1:IntKind.i64.wrap (R2-R0)=rx) (e2:IntKind.i64.wrap (rx-a)=tx) (e3:IntKind.i64.wrap (R0+hx)=X0) (e4:IntKind.i64.wrap (R3-R1)=ry) (e5:IntKind.i64.wrap (ry-b)=ty) (e6:IntKind.i64.wrap (R1+hy)=Y0)
  (e7:IntKind.i64.wrap (X0+a)=X1) (e8:IntKind.i64.wrap (Y0+b)=Y1) (h1:(if q=1∨q=2 then X1 else X0)=o1) (h2:(if q=2∨q=3 then Y1 else Y0)=o2)
  (KO:∀ w1,Calls Try.prog 13 #[.agg cs.toArray,.agg #[.int .i64 c,.int .i64 r,.slice sa sn sc]] w1 fun e w'=>e=.returned (.tuple #[.int .i64 a,.int .i64 b])∧Below w1.heap.size w1 w')
  (KR:∀ w1,Calls Try.prog 18 #[.agg cs.toArray] w1 fun e w'=>e=.returned (.agg #[.int .i64 R0,.int .i64 R1,.int .i64 R2,.int .i64 R3])∧Below w1.heap.size w1 w')
  (K1:∀ w1,Calls Try.prog 40 #[.int .i64 tx] w1 fun e w'=>e=.returned (.int .i64 hx)∧Below w1.heap.size w1 w')
  (K2:∀ w1,Calls Try.prog 40 #[.int .i64 ty] w1 fun e w'=>e=.returned (.int .i64 hy)∧Below w1.heap.size w1 w') :
  Calls Try.prog 15 #[.agg cs.toArray,.agg #[.int .i64 c,.int .i64 r,.slice sa sn sc]] w fun e w'=>e=.returned (.agg #[.int .i64 q,.int .i64 o1,.int .i64 o2])∧Below w.heap.size w w':=by
 have F0:=JFr.new w hL c r (.slice sa sn sc)
 have U0:=up_alloc (Below.refl _ ((w.alloc (.cells cs.toArray 29)).alloc (.cells #[.int .i64 c,.int .i64 r,.slice sa sn sc] 26))) (.cells #[.int .i64 0,.int .i64 0,.int .i64 0] 35)
 have R:=Bx.new ((w.alloc (.cells cs.toArray 29)).alloc (.cells #[.int .i64 c,.int .i64 r,.slice sa sn sc] 26)) 35 [.int .i64 0,.int .i64 0,.int .i64 0]
 simp only [World.size_alloc] at R
 have F1:=Lib.hid (F0.up hL U0)
 have HR:=Lib.hid R
 have s0:=F1.out.s.cell 0 rfl;have s1:=F1.out.s.cell 1 rfl;have s2:=F1.out.s.cell 2 rfl
 have HL:=Lib.hid hL;have HO:=Lib.hid KO;have HRg:=Lib.hid KR;have H1:=Lib.hid K1;have H2:=Lib.hid K2;have H25:=Lib.hid c25;have E1:=Lib.hid h1;have E2:=Lib.hid h2;have HQ:=Lib.hid hq
 clear hL KO KR K1 K2 c25 h1 h2 hq F0 U0 R
 go_enter Try.func15,Try.ntmps15
 go_wp2_with (refine wpList_load_job rfl _ rfl w.heap.size rfl cs F1.out.x HL.out ?_;simp only [Act.put,List.setIfInBounds_toArray,List.set_cons_succ,List.set_cons_zero])
 refine (HO.out _).mono ?_
 rintro e w2 ⟨rfl,hb⟩
 have F2:=Lib.hid (F1.out.up HL.out hb)
 have R2':=HR.out.up hb
 clear hb s0 s1 s2 F1 HR
 go_wp2_with (refine wpList_load_job rfl _ rfl w.heap.size rfl cs F2.out.x HL.out ?_;simp only [Act.put,List.setIfInBounds_toArray,List.set_cons_succ,List.set_cons_zero])
 refine (HRg.out _).mono ?_
 rintro e w3 ⟨rfl,hb⟩
 have U3:=up_alloc (Below.refl _ w3) (.cells #[.int .i64 R0,.int .i64 R1,.int .i64 R2,.int .i64 R3] 40)
 have S3:=Bx.new w3 40 [.int .i64 R0,.int .i64 R1,.int .i64 R2,.int .i64 R3]
 have F3:=Lib.hid ((F2.out.up HL.out hb).up HL.out U3)
 have R3':=(R2'.up hb).up U3
 clear hb F2 R2'
 go_wp2_with fail
 obtain ⟨w4,hw4⟩:∃ w4,w3.alloc (.cells #[.int .i64 R0,.int .i64 R1,.int .i64 R2,.int .i64 R3] 40)=w4:=⟨_,rfl⟩
 rw [hw4] at S3 F3 R3' ⊢
 have hlow:w.heap.size+1+1<w4.heap.size:=R3'.lt
 clear hw4 U3
 refine wp_region_boxes' 26 69 [(25,8)] [35] (fun _=>[.int .i64 0,.int .i64 0,.int .i64 0]) (by kernel_rfl) (by kernel_rfl) rfl (fun ty hty o ρ w' ho=>by simp only [List.mem_singleton] at hty;subst hty;simp [execOp,ho,go_sem])
  ⟨_,fun v0 h0 K HKK=>by
   have F5:=F3.out.up HL.out h0
   have S5:=S3.up h0
   have j25:=fun x:Later v0=>x.cell (F5.x.cell 25 H25.out)
   have r0:=fun x:Later v0=>x.cell (S5.cell 0 rfl);have r1:=fun x:Later v0=>x.cell (S5.cell 1 rfl);have r2:=fun x:Later v0=>x.cell (S5.cell 2 rfl);have r3:=fun x:Later v0=>x.cell (S5.cell 3 rfl)
   clear F5 S5
   simp only [List.take_succ_cons,List.take_zero,List.filter_cons,List.filter_nil,isAlloc,Bool.not_true,Bool.not_false,if_true,Bool.false_eq_true,if_false]
   repeat (go_big_quiet_step ((go_at_call 40;first | with_reducible exact Later.call (H1.out _) | with_reducible exact Later.call (H2.out _))))
   exact wpQuiet_nil (HKK.out _ rfl),?tail⟩
 case tail =>
  intro gf w5 h5 hg hne
  obtain ⟨lg,G⟩:=hg (25,8) (by simp) _ _ rfl rfl
  simp only [puts,List.drop_succ_cons,List.drop_zero] at lg G ⊢
  generalize gf 25=g at *
  clear hg hne
  refine wpList_store_mid rfl 35 _ _ rfl g 0 #[.int .i64 q,.int .i64 X0,.int .i64 Y0] rfl rfl G.present (by kernel_rfl) (by simp;exact ⟨rfl,rfl,rfl⟩) ?_
  have G5:=G.sets (ws:=[.int .i64 q,.int .i64 X0,.int .i64 Y0]) rfl
  have U5:=below_setCells lg [.int .i64 q,.int .i64 X0,.int .i64 Y0] 0 _ h5
  simp only [Act.put]
  refine wpList_nil ?_
  obtain ⟨w6,hw6⟩:∃ w6,w5.setCells g 0 [.int .i64 q,.int .i64 X0,.int .i64 Y0]=w6:=⟨_,rfl⟩
  rw [hw6] at G5 U5
  have F6:=F3.out.up HL.out U5
  have R6:=R3'.up U5
  have b25:=F6.x.cell 25 H25.out
  have B6:=Lib.hid F6.b
  have hX:=F6.x
  rename_i hK
  refine hK _ _ ?_
  rw [show w5.setCells g 0 (#[.int .i64 q,.int .i64 X0,.int .i64 Y0]:Array Value).toList=w6 from hw6]
  simp only [List.setIfInBounds_toArray,List.set_cons_zero,List.set_cons_succ]
  have nr:g≠w.heap.size+1+1:=by omega
  have nx:g≠w.heap.size:=by omega
  clear hw6 G U5 F3 R3' S3 hK h5 F6
  rcases HQ.out with rfl | rfl | rfl | rfl
  ·obtain rfl:X0=o1:=E1.out
   obtain rfl:Y0=o2:=E2.out
   have g1:=G5.cell 1 rfl;have g2:=G5.cell 2 rfl;have gf:=G5.free
   have S7:=G5
   have R7:=R6
   have BB:=Lib.hid B6.out
   have t0:=S7.cell 0 rfl;have t1:=S7.cell 1 rfl;have t2:=S7.cell 2 rfl
   have r0:=R7.cell 0 rfl;have r1:=R7.cell 1 rfl;have r2:=R7.cell 2 rfl;have rf:=R7.free
   have R8:=R7.set3 (.int .i64 0) (.int .i64 X0) (.int .i64 Y0)
   have p0:=Lib.hid (R8.cell 0 rfl);have p1:=Lib.hid (R8.cell 1 rfl);have p2:=Lib.hid (R8.cell 2 rfl)
   clear G5 R6 hX S7 R7 R8
   go_wp2
   have q0:=p0.out;have q1:=p1.out;have q2:=p2.out
   refine bodyPost_ret (v:=.agg #[.int .i64 0,.int .i64 X0,.int .i64 Y0]) (by simp [results,Try.results15,go_sem,q0,q1,q2]) rfl ⟨rfl,?_⟩
   exact up_set (up_set (up_set BB.out (by simp only;omega) _) (by simp only;omega) _) (by simp only;omega) _
  ·obtain rfl:X1=o1:=E1.out
   obtain rfl:Y0=o2:=E2.out
   have g1:=G5.cell 1 rfl;have g2:=G5.cell 2 rfl;have gf:=G5.free
   have k2:=(G5.set 1 (.int .i64 X1)).cell 2 rfl;have kf:=(G5.set 1 (.int .i64 X1)).free;have b25':=(hX.far (p:=⟨g,1,none⟩) nx (.int .i64 X1)).cell 25 H25.out
   have S7:=(G5.set 1 (.int .i64 X1))
   have R7:=(R6.far (p:=⟨g,1,none⟩) nr (.int .i64 X1))
   have BB:=Lib.hid (up_set B6.out (p:=⟨g,1,none⟩) (by simp only;omega) (.int .i64 X1))
   have t0:=S7.cell 0 rfl;have t1:=S7.cell 1 rfl;have t2:=S7.cell 2 rfl
   have r0:=R7.cell 0 rfl;have r1:=R7.cell 1 rfl;have r2:=R7.cell 2 rfl;have rf:=R7.free
   have R8:=R7.set3 (.int .i64 1) (.int .i64 X1) (.int .i64 Y0)
   have p0:=Lib.hid (R8.cell 0 rfl);have p1:=Lib.hid (R8.cell 1 rfl);have p2:=Lib.hid (R8.cell 2 rfl)
   clear G5 R6 hX S7 R7 R8
   go_wp2
   have q0:=p0.out;have q1:=p1.out;have q2:=p2.out
   refine bodyPost_ret (v:=.agg #[.int .i64 1,.int .i64 X1,.int .i64 Y0]) (by simp [results,Try.results15,go_sem,q0,q1,q2]) rfl ⟨rfl,?_⟩
   exact up_set (up_set (up_set BB.out (by simp only;omega) _) (by simp only;omega) _) (by simp only;omega) _
  ·obtain rfl:X1=o1:=E1.out
   obtain rfl:Y1=o2:=E2.out
   have g1:=G5.cell 1 rfl;have g2:=G5.cell 2 rfl;have gf:=G5.free
   have k2:=(G5.set 1 (.int .i64 X1)).cell 2 rfl;have kf:=(G5.set 1 (.int .i64 X1)).free;have b25':=(hX.far (p:=⟨g,1,none⟩) nx (.int .i64 X1)).cell 25 H25.out
   have S7:=((G5.set 1 (.int .i64 X1)).set 2 (.int .i64 Y1))
   have R7:=((R6.far (p:=⟨g,1,none⟩) nr (.int .i64 X1)).far (p:=⟨g,2,none⟩) nr (.int .i64 Y1))
   have BB:=Lib.hid (up_set (up_set B6.out (p:=⟨g,1,none⟩) (by simp only;omega) (.int .i64 X1)) (p:=⟨g,2,none⟩) (by simp only;omega) (.int .i64 Y1))
   have t0:=S7.cell 0 rfl;have t1:=S7.cell 1 rfl;have t2:=S7.cell 2 rfl
   have r0:=R7.cell 0 rfl;have r1:=R7.cell 1 rfl;have r2:=R7.cell 2 rfl;have rf:=R7.free
   have R8:=R7.set3 (.int .i64 2) (.int .i64 X1) (.int .i64 Y1)
   have p0:=Lib.hid (R8.cell 0 rfl);have p1:=Lib.hid (R8.cell 1 rfl);have p2:=Lib.hid (R8.cell 2 rfl)
   clear G5 R6 hX S7 R7 R8
   go_wp2
   have q0:=p0.out;have q1:=p1.out;have q2:=p2.out
   refine bodyPost_ret (v:=.agg #[.int .i64 2,.int .i64 X1,.int .i64 Y1]) (by simp [results,Try.results15,go_sem,q0,q1,q2]) rfl ⟨rfl,?_⟩
   exact up_set (up_set (up_set BB.out (by simp only;omega) _) (by simp only;omega) _) (by simp only;omega) _
  ·obtain rfl:X0=o1:=E1.out
   obtain rfl:Y1=o2:=E2.out
   have g1:=G5.cell 1 rfl;have g2:=G5.cell 2 rfl;have gf:=G5.free
   have S7:=(G5.set 2 (.int .i64 Y1))
   have R7:=(R6.far (p:=⟨g,2,none⟩) nr (.int .i64 Y1))
   have BB:=Lib.hid (up_set B6.out (p:=⟨g,2,none⟩) (by simp only;omega) (.int .i64 Y1))
   have t0:=S7.cell 0 rfl;have t1:=S7.cell 1 rfl;have t2:=S7.cell 2 rfl
   have r0:=R7.cell 0 rfl;have r1:=R7.cell 1 rfl;have r2:=R7.cell 2 rfl;have rf:=R7.free
   have R8:=R7.set3 (.int .i64 3) (.int .i64 X0) (.int .i64 Y1)
   have p0:=Lib.hid (R8.cell 0 rfl);have p1:=Lib.hid (R8.cell 1 rfl);have p2:=Lib.hid (R8.cell 2 rfl)
   clear G5 R6 hX S7 R7 R8
   go_wp2
   have q0:=p0.out;have q1:=p1.out;have q2:=p2.out
   refine bodyPost_ret (v:=.agg #[.int .i64 3,.int .i64 X0,.int .i64 Y1]) (by simp [results,Try.results15,go_sem,q0,q1,q2]) rfl ⟨rfl,?_⟩
   exact up_set (up_set (up_set BB.out (by simp only;omega) _) (by simp only;omega) _) (by simp only;omega) _
theorem turn_ways {n:Nat→Int} (h:firstJ n<0):n 20=0∨n 20=1∨n 20=2∨n 20=3:=by
 have:=first_all h 20 (by decide)
 have e1:lowJ 20=0:=by decide
 have e2:topJ 20=3:=by decide
 omega
theorem refAt_any (cs:List Value) (n:Nat→Int) (c r:Int) (sa:Option Addr) (sn sc:Nat) (w:World) (h:NumC cs n) (hL:cs.length=33) (hf:firstJ n<0) :
  Calls Try.prog 15 #[.agg cs.toArray,.agg #[.int .i64 c,.int .i64 r,.slice sa sn sc]] w fun e w'=>e=.returned (.agg #[.int .i64 (atA n c r).1,.int .i64 (atA n c r).2.1,.int .i64 (atA n c r).2.2])∧Below w.heap.size w w' :=
 refAt_core cs c r (n 20) (outW n c r) (outH n c r) (regionS n).1 (regionS n).2.1 (regionS n).2.2.1 (regionS n).2.2.2 (roomX n) (roomY n) _ _ _ _ (atX n c r) (atY n c r) _ _ _ _ sa sn sc w hL (h 20 (by decide)) (turn_ways hf) rfl rfl rfl rfl rfl rfl rfl rfl rfl rfl
  (fun w1=>refOuter_any cs n c r sa sn sc w1 h hL) (fun w1=>refRegion_any cs n w1 h hL) (fun w1=>refHalf22_any _ w1) (fun w1=>refHalf22_any _ w1)
theorem refWithin_any (a0 a1 a2 a3 b0 b1 b2 b3:Int) (w:World) :
  Calls Try.prog 19 #[.agg #[.int .i64 a0,.int .i64 a1,.int .i64 a2,.int .i64 a3],.agg #[.int .i64 b0,.int .i64 b1,.int .i64 b2,.int .i64 b3]] w fun e w'=>e=.returned (.bool (withinR a0 a1 a2 a3 b0 b1 b2 b3))∧Below w.heap.size w w':=by
 have KE:=fun w=>refEmpty_any a0 a1 a2 a3 w
 obtain ⟨V,hV⟩:∃ V,withinR a0 a1 a2 a3 b0 b1 b2 b3=V:=⟨_,rfl⟩
 rw [hV]
 unfold withinR at hV
 generalize emp4 a0 a1 a2 a3=E at *
 have HE:=Lib.hid KE
 clear KE
 cases E
 ·rw [Bool.false_or] at hV
  by_cases g0:b0≤a0<;>by_cases g1:a2≤b2<;>by_cases g2:b1≤a1<;>by_cases g3:a3≤b3
  all_goals
   simp [g0,g1,g2,g3] at hV
   subst hV
   go_enter Try.func19,Try.ntmps19
   go_wp2_with (go_at_call 20;refine (HE.out _).mono ?_;rintro e w' ⟨rfl,rfl⟩)
   go_ret
   exact ⟨ret_boolB (by first | rfl | (simp;omega)),up_alloc (up_alloc (up_alloc (Below.refl _ _) _) _) _⟩
 ·simp at hV
  subst hV
  go_enter Try.func19,Try.ntmps19
  go_wp2_with (go_at_call 20;refine (HE.out _).mono ?_;rintro e w' ⟨rfl,rfl⟩)
  go_ret
  exact ⟨rfl,up_alloc (up_alloc (up_alloc (Below.refl _ _) _) _) _⟩
set_option maxRecDepth 100000 in
set_option maxHeartbeats 1000000 in
theorem refABack_core (cs:List Value) (c r A0 A1 A2 F0 F1 F2 B0 B1 B2:Int) (sa:Option Addr) (sn sc:Nat) (w:World) (hL:cs.length=33)
  (KA:∀ w1,Calls Try.prog 15 #[.agg cs.toArray,.agg #[.int .i64 c,.int .i64 r,.slice sa sn sc]] w1 fun e w'=>e=.returned (.agg #[.int .i64 A0,.int .i64 A1,.int .i64 A2])∧Below w1.heap.size w1 w')
  (KF:∀ w1,Calls Try.prog 42 #[.agg cs.toArray] w1 fun e w'=>e=.returned (.agg #[.int .i64 F0,.int .i64 F1,.int .i64 F2])∧Below w1.heap.size w1 w')
  (KT:∀ w1,Calls Try.prog 41 #[.agg #[.int .i64 A0,.int .i64 A1,.int .i64 A2],.agg #[.int .i64 F0,.int .i64 F1,.int .i64 F2]] w1 fun e w'=>e=.returned (.agg #[.int .i64 B0,.int .i64 B1,.int .i64 B2])∧Below w1.heap.size w1 w') :
  Calls Try.prog 16 #[.agg cs.toArray,.agg #[.int .i64 c,.int .i64 r,.slice sa sn sc]] w fun e w'=>e=.returned (.agg #[.int .i64 B0,.int .i64 B1,.int .i64 B2])∧Below w.heap.size w w':=by
 have G0:=JFr.new w hL c r (.slice sa sn sc)
 have U0:=up_alloc (Below.refl _ ((w.alloc (.cells cs.toArray 29)).alloc (.cells #[.int .i64 c,.int .i64 r,.slice sa sn sc] 26))) (.cells #[.int .i64 0,.int .i64 0,.int .i64 0] 35)
 have R:=Bx.new ((w.alloc (.cells cs.toArray 29)).alloc (.cells #[.int .i64 c,.int .i64 r,.slice sa sn sc] 26)) 35 [.int .i64 0,.int .i64 0,.int .i64 0]
 simp only [World.size_alloc] at R
 have G1:=G0.up hL U0
 have HL:=Lib.hid hL;have HA:=Lib.hid KA;have HF:=Lib.hid KF;have HT:=Lib.hid KT
 clear hL KA KF KT G0 U0
 go_enter Try.func16,Try.ntmps16
 go_wp2_with fail
 obtain ⟨w1,hw1⟩:∃ w1,((w.alloc (.cells cs.toArray 29)).alloc (.cells #[.int .i64 c,.int .i64 r,.slice sa sn sc] 26)).alloc (.cells #[.int .i64 0,.int .i64 0,.int .i64 0] 35)=w1:=⟨_,rfl⟩
 rw [hw1] at G1 R ⊢
 have s0:=fun x:Later w1=>x.cell (G1.s.cell 0 rfl);have s1:=fun x:Later w1=>x.cell (G1.s.cell 1 rfl);have s2:=fun x:Later w1=>x.cell (G1.s.cell 2 rfl)
 have HRG:=Lib.hid (later_range G1.x (by rw [HL.out];decide))
 have HB:=Lib.hid G1.b
 clear hw1 G1
 refine later_start (w:=w1) ?_
 intro y
 refine wp_region_later_tail 6 (by kernel_rfl) (by kernel_rfl) ?_
 simp only [List.take_succ_cons,List.take_zero,List.drop_succ_cons,List.drop_zero]
 repeat (first
  | (go_big_quiet_want;refine quiet_load_job _ rfl w.heap.size rfl cs HL.out HRG.out ?_;simp only [Act.put,List.setIfInBounds_toArray,List.set_cons_succ,List.set_cons_zero];go_big_quiet_on)
  | go_big_quiet_step (first
   | (go_at_call 15;with_reducible exact Later.call (HA.out _))
   | (go_at_call 42;with_reducible exact Later.call (HF.out _))
   | (go_at_call 41;with_reducible exact Later.call (HT.out _))))
 refine wpQuiet_nil ?_
 rintro _ ⟨y2,rfl⟩
 have R2:=R.up y2.up
 have BB:=Lib.hid (up_trans HB.out y2.up)
 have r0:=R2.cell 0 rfl;have r1:=R2.cell 1 rfl;have r2:=R2.cell 2 rfl;have rf:=R2.free
 clear R R2 s0 s1 s2
 generalize y2.now=w2 at *
 go_wp2
 refine bodyPost_ret (v:=.agg #[.int .i64 B0,.int .i64 B1,.int .i64 B2]) (by simp [results,Try.results16,go_sem,r0,r1,r2]) rfl ⟨rfl,?_⟩
 exact up_set (up_set (up_set BB.out (by simp only;omega) _) (by simp only;omega) _) (by simp only;omega) _
theorem at_in (n:Nat→Int) (c r:Int):I64 (atA n c r).2.1∧I64 (atA n c r).2.2:=by
 unfold atA
 constructor
 ·simp only;split<;>exact w64_in _
 ·simp only;split<;>exact w64_in _
theorem refABack_any (cs:List Value) (n:Nat→Int) (c r:Int) (sa:Option Addr) (sn sc:Nat) (w:World) (h:NumC cs n) (hL:cs.length=33) (hf:firstJ n<0) :
  Calls Try.prog 16 #[.agg cs.toArray,.agg #[.int .i64 c,.int .i64 r,.slice sa sn sc]] w fun e w'=>e=.returned (.agg #[.int .i64 (backA n c r).1,.int .i64 (backA n c r).2.1,.int .i64 (backA n c r).2.2])∧Below w.heap.size w w':=by
 obtain ⟨i1,i2⟩:=at_in n c r
 exact refABack_core cs c r (atA n c r).1 (atA n c r).2.1 (atA n c r).2.2 (flipS n).1 (flipS n).2.1 (flipS n).2.2 _ _ _ sa sn sc w hL (fun w1=>refAt_any cs n c r sa sn sc w1 h hL hf) (fun w1=>refFlip_any cs n w1 h hL) (fun w1=>refPthen_any _ _ _ _ _ _ w1 i1.1 i1.2 i2.1 i2.2)
set_option maxRecDepth 100000 in
set_option maxHeartbeats 1000000 in
theorem refSide_core (cs:List Value) (c r s A0 A1 A2 B0 B1 B2 o0 o1 o2:Int) (sa:Option Addr) (sn sc:Nat) (u:Bool) (w:World) (hL:cs.length=33) (hu:(s==2)=u) (h0:(if u=true then B0 else A0)=o0) (h1:(if u=true then B1 else A1)=o1) (h2:(if u=true then B2 else A2)=o2)
  (KA:∀ w1,Calls Try.prog 15 #[.agg cs.toArray,.agg #[.int .i64 c,.int .i64 r,.slice sa sn sc]] w1 fun e w'=>e=.returned (.agg #[.int .i64 A0,.int .i64 A1,.int .i64 A2])∧Below w1.heap.size w1 w')
  (KB:∀ w1,Calls Try.prog 16 #[.agg cs.toArray,.agg #[.int .i64 c,.int .i64 r,.slice sa sn sc]] w1 fun e w'=>e=.returned (.agg #[.int .i64 B0,.int .i64 B1,.int .i64 B2])∧Below w1.heap.size w1 w') :
  Calls Try.prog 44 #[.agg cs.toArray,.agg #[.int .i64 c,.int .i64 r,.slice sa sn sc],.int .i64 s] w fun e w'=>e=.returned (.agg #[.int .i64 o0,.int .i64 o1,.int .i64 o2])∧Below w.heap.size w w':=by
 have G0:=JFr.new w hL c r (.slice sa sn sc)
 have U0:=up_alloc (Below.refl _ ((w.alloc (.cells cs.toArray 29)).alloc (.cells #[.int .i64 c,.int .i64 r,.slice sa sn sc] 26))) (.cells #[.int .i64 0,.int .i64 0,.int .i64 0] 35)
 have R:=Bx.new ((w.alloc (.cells cs.toArray 29)).alloc (.cells #[.int .i64 c,.int .i64 r,.slice sa sn sc] 26)) 35 [.int .i64 0,.int .i64 0,.int .i64 0]
 simp only [World.size_alloc] at R
 have G1:=Lib.hid (G0.up hL U0)
 have s0:=G1.out.s.cell 0 rfl;have s1:=G1.out.s.cell 1 rfl;have s2:=G1.out.s.cell 2 rfl
 have HL:=Lib.hid hL;have HA:=Lib.hid KA;have HB:=Lib.hid KB;have E0:=Lib.hid h0;have E1:=Lib.hid h1;have E2:=Lib.hid h2
 clear hL KA KB h0 h1 h2 G0 U0
 cases u
 ·obtain rfl:A0=o0:=E0.out
  obtain rfl:A1=o1:=E1.out
  obtain rfl:A2=o2:=E2.out
  go_enter Try.func44,Try.ntmps44
  go_wp2_with (refine wpList_load_job rfl _ rfl w.heap.size rfl cs G1.out.x HL.out ?_;simp only [Act.put,List.setIfInBounds_toArray,List.set_cons_succ,List.set_cons_zero])
  refine (HA.out _).mono ?_
  rintro e w2 ⟨rfl,hb⟩
  have R2:=R.up hb
  have BB:=Lib.hid (up_trans G1.out.b hb)
  have r0:=R2.cell 0 rfl;have r1:=R2.cell 1 rfl;have r2:=R2.cell 2 rfl;have rf:=R2.free
  have R3:=R2.set3 (.int .i64 A0) (.int .i64 A1) (.int .i64 A2)
  have p0:=Lib.hid (R3.cell 0 rfl);have p1:=Lib.hid (R3.cell 1 rfl);have p2:=Lib.hid (R3.cell 2 rfl)
  clear R R2 R3 s0 s1 s2 hb
  go_wp2
  have q0:=p0.out;have q1:=p1.out;have q2:=p2.out
  refine bodyPost_ret (v:=.agg #[.int .i64 A0,.int .i64 A1,.int .i64 A2]) (by simp [results,Try.results44,go_sem,q0,q1,q2]) rfl ⟨rfl,?_⟩
  exact up_set (up_set (up_set BB.out (by simp only;omega) _) (by simp only;omega) _) (by simp only;omega) _
 ·obtain rfl:B0=o0:=E0.out
  obtain rfl:B1=o1:=E1.out
  obtain rfl:B2=o2:=E2.out
  go_enter Try.func44,Try.ntmps44
  go_wp2_with (refine wpList_load_job rfl _ rfl w.heap.size rfl cs G1.out.x HL.out ?_;simp only [Act.put,List.setIfInBounds_toArray,List.set_cons_succ,List.set_cons_zero])
  refine (HB.out _).mono ?_
  rintro e w2 ⟨rfl,hb⟩
  have R2:=R.up hb
  have BB:=Lib.hid (up_trans G1.out.b hb)
  have r0:=R2.cell 0 rfl;have r1:=R2.cell 1 rfl;have r2:=R2.cell 2 rfl;have rf:=R2.free
  have R3:=R2.set3 (.int .i64 B0) (.int .i64 B1) (.int .i64 B2)
  have p0:=Lib.hid (R3.cell 0 rfl);have p1:=Lib.hid (R3.cell 1 rfl);have p2:=Lib.hid (R3.cell 2 rfl)
  clear R R2 R3 s0 s1 s2 hb
  go_wp2
  have q0:=p0.out;have q1:=p1.out;have q2:=p2.out
  refine bodyPost_ret (v:=.agg #[.int .i64 B0,.int .i64 B1,.int .i64 B2]) (by simp [results,Try.results44,go_sem,q0,q1,q2]) rfl ⟨rfl,?_⟩
  exact up_set (up_set (up_set BB.out (by simp only;omega) _) (by simp only;omega) _) (by simp only;omega) _
theorem refSide_any (cs:List Value) (n:Nat→Int) (c r s:Int) (sa:Option Addr) (sn sc:Nat) (w:World) (h:NumC cs n) (hL:cs.length=33) (hf:firstJ n<0) :
  Calls Try.prog 44 #[.agg cs.toArray,.agg #[.int .i64 c,.int .i64 r,.slice sa sn sc],.int .i64 s] w fun e w'=>e=.returned (.agg #[.int .i64 (if s=2 then backA n c r else atA n c r).1,.int .i64 (if s=2 then backA n c r else atA n c r).2.1,.int .i64 (if s=2 then backA n c r else atA n c r).2.2])∧Below w.heap.size w w':=by
 refine refSide_core cs c r s (atA n c r).1 (atA n c r).2.1 (atA n c r).2.2 (backA n c r).1 (backA n c r).2.1 (backA n c r).2.2 _ _ _ sa sn sc _ w hL rfl ?_ ?_ ?_ (fun w1=>refAt_any cs n c r sa sn sc w1 h hL hf) (fun w1=>refABack_any cs n c r sa sn sc w1 h hL hf)
 all_goals
  simp only [beq_iff_eq]
  split<;>rfl
def RcsA (w:World) (a:Option Addr) (L:List (Int×Int×Int×Int)):Prop:=L=[]∨∃ b off,a=some ⟨b,off,none⟩∧∀ i p,L[i]?=some p →
 w.cell? ⟨b,off+i*4,none⟩=some (.int .i64 p.1)∧w.cell? ⟨b,off+i*4+1,none⟩=some (.int .i64 p.2.1)∧w.cell? ⟨b,off+i*4+2,none⟩=some (.int .i64 p.2.2.1)∧w.cell? ⟨b,off+i*4+3,none⟩=some (.int .i64 p.2.2.2)
theorem RcsA.up {w w':World} {a:Option Addr} {L:List (Int×Int×Int×Int)} (h:RcsA w a L) (hb:Below w.heap.size w w'):RcsA w' a L:=by
 rcases h with h | ⟨b,off,e,h⟩
 ·exact .inl h
 ·refine .inr ⟨b,off,e,fun i p hp=>?_⟩
  obtain ⟨c0,c1,c2,c3⟩:=h i p hp
  exact ⟨bl_cell hb c0,bl_cell hb c1,bl_cell hb c2,bl_cell hb c3⟩
set_option maxRecDepth 100000 in
set_option maxHeartbeats 1000000 in
theorem refBlocks_core (cs:List Value) (c r s st bw bh Q0 Q1 Q2 Q3 A0 A1 A2 B0 B1 B2 S0 S1 S2 X0 X1 X2 X3 Y0 Y1 Y2 Y3 Z0 Z1 Z2 Z3:Int) (sa:Option Addr) (sn sc:Nat) (u:Bool) (w:World) (hL:cs.length=33) (c16:cs[16]?=some (.int .i64 st)) (hu:decide (3≤st)=u)
  (KB:∀ w1,Calls Try.prog 39 #[.agg cs.toArray,.agg #[.int .i64 c,.int .i64 r,.slice sa sn sc]] w1 fun e w'=>e=.returned (.tuple #[.int .i64 bw,.int .i64 bh])∧Below w1.heap.size w1 w')
  (KO:∀ w1,Calls Try.prog 43 #[.int .i64 0,.int .i64 0,.int .i64 bw,.int .i64 bh] w1 fun e w'=>e=.returned (.agg #[.int .i64 Q0,.int .i64 Q1,.int .i64 Q2,.int .i64 Q3])∧Below w1.heap.size w1 w')
  (KA:∀ w1,Calls Try.prog 15 #[.agg cs.toArray,.agg #[.int .i64 c,.int .i64 r,.slice sa sn sc]] w1 fun e w'=>e=.returned (.agg #[.int .i64 A0,.int .i64 A1,.int .i64 A2])∧Below w1.heap.size w1 w')
  (KC:∀ w1,Calls Try.prog 16 #[.agg cs.toArray,.agg #[.int .i64 c,.int .i64 r,.slice sa sn sc]] w1 fun e w'=>e=.returned (.agg #[.int .i64 B0,.int .i64 B1,.int .i64 B2])∧Below w1.heap.size w1 w')
  (KS:∀ w1,Calls Try.prog 44 #[.agg cs.toArray,.agg #[.int .i64 c,.int .i64 r,.slice sa sn sc],.int .i64 s] w1 fun e w'=>e=.returned (.agg #[.int .i64 S0,.int .i64 S1,.int .i64 S2])∧Below w1.heap.size w1 w')
  (K1:∀ w1,Calls Try.prog 24 #[.agg #[.int .i64 A0,.int .i64 A1,.int .i64 A2],.agg #[.int .i64 Q0,.int .i64 Q1,.int .i64 Q2,.int .i64 Q3]] w1 fun e w'=>e=.returned (.agg #[.int .i64 X0,.int .i64 X1,.int .i64 X2,.int .i64 X3])∧Below w1.heap.size w1 w')
  (K2:∀ w1,Calls Try.prog 24 #[.agg #[.int .i64 B0,.int .i64 B1,.int .i64 B2],.agg #[.int .i64 Q0,.int .i64 Q1,.int .i64 Q2,.int .i64 Q3]] w1 fun e w'=>e=.returned (.agg #[.int .i64 Y0,.int .i64 Y1,.int .i64 Y2,.int .i64 Y3])∧Below w1.heap.size w1 w')
  (K3:∀ w1,Calls Try.prog 24 #[.agg #[.int .i64 S0,.int .i64 S1,.int .i64 S2],.agg #[.int .i64 Q0,.int .i64 Q1,.int .i64 Q2,.int .i64 Q3]] w1 fun e w'=>e=.returned (.agg #[.int .i64 Z0,.int .i64 Z1,.int .i64 Z2,.int .i64 Z3])∧Below w1.heap.size w1 w') :
  Calls Try.prog 17 #[.agg cs.toArray,.agg #[.int .i64 c,.int .i64 r,.slice sa sn sc],.int .i64 s] w fun e w'=>∃ a cap,e=.returned (.slice a (if u=true then [(X0,X1,X2,X3),(Y0,Y1,Y2,Y3)] else [(Z0,Z1,Z2,Z3)]).length cap)∧RcsA w' a (if u=true then [(X0,X1,X2,X3),(Y0,Y1,Y2,Y3)] else [(Z0,Z1,Z2,Z3)])∧Below w.heap.size w w':=by
 have G0:=Lib.hid (JFr.new w hL c r (.slice sa sn sc))
 have s0:=G0.out.s.cell 0 rfl;have s1:=G0.out.s.cell 1 rfl;have s2:=G0.out.s.cell 2 rfl
 have HL:=Lib.hid hL;have HB:=Lib.hid KB;have HO:=Lib.hid KO;have HA:=Lib.hid KA;have HC:=Lib.hid KC;have HS:=Lib.hid KS;have H1:=Lib.hid K1;have H2:=Lib.hid K2;have H3:=Lib.hid K3;have H16:=Lib.hid c16
 obtain ⟨L,hLL⟩:∃ L,(if u=true then [(X0,X1,X2,X3),(Y0,Y1,Y2,Y3)] else [(Z0,Z1,Z2,Z3)])=L:=⟨_,rfl⟩
 rw [hLL]
 have HLL:=Lib.hid hLL
 clear hL KB KO KA KC KS K1 K2 K3 c16 hLL
 go_enter Try.func17,Try.ntmps17
 go_wp2_with (refine wpList_load_job rfl _ rfl w.heap.size rfl cs G0.out.x HL.out ?_;simp only [Act.put,List.setIfInBounds_toArray,List.set_cons_succ,List.set_cons_zero])
 refine (HB.out _).mono ?_
 rintro e w1 ⟨rfl,hb⟩
 have G1:=Lib.hid (G0.out.up HL.out hb)
 clear hb G0 s0 s1 s2
 go_wp2_with fail
 refine (HO.out _).mono ?_
 rintro e w2 ⟨rfl,hb⟩
 have U:=up_alloc (Below.refl _ w2) (.cells #[.int .i64 Q0,.int .i64 Q1,.int .i64 Q2,.int .i64 Q3] 40)
 have S2:=Bx.new w2 40 [.int .i64 Q0,.int .i64 Q1,.int .i64 Q2,.int .i64 Q3]
 have G2:=(G1.out.up HL.out hb).up HL.out U
 have b16:=G2.x.cell 16 H16.out
 have B2:=Lib.hid G2.b
 clear hb G1
 cases u
 ·obtain rfl:[(Z0,Z1,Z2,Z3)]=L:=HLL.out
  go_wp2_with fail
  obtain ⟨w3,hw3⟩:∃ w3,w2.alloc (.cells #[.int .i64 Q0,.int .i64 Q1,.int .i64 Q2,.int .i64 Q3] 40)=w3:=⟨_,rfl⟩
  rw [hw3] at S2 G2 B2 ⊢
  have s0:=fun x:Later w3=>x.cell (G2.s.cell 0 rfl);have s1:=fun x:Later w3=>x.cell (G2.s.cell 1 rfl);have s2:=fun x:Later w3=>x.cell (G2.s.cell 2 rfl)
  have q0:=fun x:Later w3=>x.cell (S2.cell 0 rfl);have q1:=fun x:Later w3=>x.cell (S2.cell 1 rfl);have q2:=fun x:Later w3=>x.cell (S2.cell 2 rfl);have q3:=fun x:Later w3=>x.cell (S2.cell 3 rfl)
  have HRG:=Lib.hid (later_range G2.x (by rw [HL.out];decide))
  clear hw3 G2 S2 U b16
  refine later_start (w:=w3) ?_
  intro y
  refine wp_region_later_tail 6 (by kernel_rfl) (by kernel_rfl) ?_
  simp only [List.take_succ_cons,List.take_zero,List.drop_succ_cons,List.drop_zero]
  repeat (first
   | (go_big_quiet_want;refine quiet_load_job _ rfl w.heap.size rfl cs HL.out HRG.out ?_;simp only [Act.put,List.setIfInBounds_toArray,List.set_cons_succ,List.set_cons_zero];go_big_quiet_on)
   | go_big_quiet_step (first
    | (go_at_call 44;with_reducible exact Later.call (HS.out _))
    | (go_at_call 24;with_reducible exact Later.call (H3.out _))))
  refine wpQuiet_nil ?_
  rintro _ ⟨y2,rfl⟩
  have BB:=Lib.hid (up_trans B2.out y2.up)
  clear s0 s1 s2 q0 q1 q2 q3
  generalize y2.now=w4 at *
  go_wp2
  go_ret
  have N:=Bx.new w4 40 [.int .i64 Z0,.int .i64 Z1,.int .i64 Z2,.int .i64 Z3]
  refine ⟨some ⟨w4.heap.size,0,none⟩,1,rfl,.inr ⟨_,0,rfl,fun i p hp=>?_⟩,up_alloc BB.out _⟩
  match i,hp with
  | 0,hp =>
   cases hp
   exact ⟨N.cell 0 rfl,N.cell 1 rfl,N.cell 2 rfl,N.cell 3 rfl⟩
 ·obtain rfl:[(X0,X1,X2,X3),(Y0,Y1,Y2,Y3)]=L:=HLL.out
  go_wp2_with fail
  obtain ⟨w3,hw3⟩:∃ w3,w2.alloc (.cells #[.int .i64 Q0,.int .i64 Q1,.int .i64 Q2,.int .i64 Q3] 40)=w3:=⟨_,rfl⟩
  rw [hw3] at S2 G2 B2 ⊢
  have s0:=fun x:Later w3=>x.cell (G2.s.cell 0 rfl);have s1:=fun x:Later w3=>x.cell (G2.s.cell 1 rfl);have s2:=fun x:Later w3=>x.cell (G2.s.cell 2 rfl)
  have q0:=fun x:Later w3=>x.cell (S2.cell 0 rfl);have q1:=fun x:Later w3=>x.cell (S2.cell 1 rfl);have q2:=fun x:Later w3=>x.cell (S2.cell 2 rfl);have q3:=fun x:Later w3=>x.cell (S2.cell 3 rfl)
  have HRG:=Lib.hid (later_range G2.x (by rw [HL.out];decide))
  clear hw3 G2 S2 U b16
  refine later_start (w:=w3) ?_
  intro y
  refine wp_region_later_tail 10 (by kernel_rfl) (by kernel_rfl) ?_
  simp only [List.take_succ_cons,List.take_zero,List.drop_succ_cons,List.drop_zero]
  repeat (first
   | (go_big_quiet_want;refine quiet_load_job _ rfl w.heap.size rfl cs HL.out HRG.out ?_;simp only [Act.put,List.setIfInBounds_toArray,List.set_cons_succ,List.set_cons_zero];go_big_quiet_on)
   | go_big_quiet_step (first
    | (go_at_call 15;with_reducible exact Later.call (HA.out _))
    | (go_at_call 16;with_reducible exact Later.call (HC.out _))
    | (go_at_call 24;first | with_reducible exact Later.call (H1.out _) | with_reducible exact Later.call (H2.out _))))
  refine wpQuiet_nil ?_
  rintro _ ⟨y2,rfl⟩
  have BB:=Lib.hid (up_trans B2.out y2.up)
  clear s0 s1 s2 q0 q1 q2 q3
  generalize y2.now=w4 at *
  go_wp2
  go_ret
  have N:=Bx.new w4 40 [.int .i64 X0,.int .i64 X1,.int .i64 X2,.int .i64 X3,.int .i64 Y0,.int .i64 Y1,.int .i64 Y2,.int .i64 Y3]
  refine ⟨some ⟨w4.heap.size,0,none⟩,2,rfl,.inr ⟨_,0,rfl,fun i p hp=>?_⟩,up_alloc BB.out _⟩
  match i,hp with
  | 0,hp =>
   cases hp
   exact ⟨N.cell 0 rfl,N.cell 1 rfl,N.cell 2 rfl,N.cell 3 rfl⟩
  | 1,hp =>
   cases hp
   exact ⟨N.cell 4 rfl,N.cell 5 rfl,N.cell 6 rfl,N.cell 7 rfl⟩
theorem i64_wfA {x:Int} (h:I64 x):(Lit.int .i64 x).wf=true:=by
 unfold I64 at h
 simp [Lit.wf,IntKind.min,IntKind.max,IntKind.bits,IntKind.signed]
 omega
theorem refBoxOf_any (a:Int×Int×Int) (x0 y0 x1 y1:Int) (w:World) (h0:I64 x0) (h1:I64 y0) (h2:I64 x1) (h3:I64 y1) :
  Calls Try.prog 24 #[.agg #[.int .i64 a.1,.int .i64 a.2.1,.int .i64 a.2.2],.agg #[.int .i64 x0,.int .i64 y0,.int .i64 x1,.int .i64 y1]] w fun e w'=>e=.returned (.agg #[.int .i64 (boxOf a x0 y0 x1 y1).1,.int .i64 (boxOf a x0 y0 x1 y1).2.1,.int .i64 (boxOf a x0 y0 x1 y1).2.2.1,.int .i64 (boxOf a x0 y0 x1 y1).2.2.2])∧Below w.heap.size w w' :=
 refPbox_any a.1 a.2.1 a.2.2 x0 y0 x1 y1 w (i64_wfA h0) (i64_wfA h1) (i64_wfA h2) (i64_wfA h3)
theorem refBlocks_any (cs:List Value) (n:Nat→Int) (c r s:Int) (sa:Option Addr) (sn sc:Nat) (w:World) (h:NumC cs n) (hL:cs.length=33) (hf:firstJ n<0) :
  Calls Try.prog 17 #[.agg cs.toArray,.agg #[.int .i64 c,.int .i64 r,.slice sa sn sc],.int .i64 s] w fun e w'=>∃ a cap,e=.returned (.slice a (blocksA n c r s).length cap)∧RcsA w' a (blocksA n c r s)∧Below w.heap.size w w':=by
 have i0:I64 0:=by unfold I64;omega
 have K:=refBlocks_core cs c r s (n 11) (blkW n c) (blkH n r) 0 0 (w64 (0+blkW n c)) (w64 (0+blkH n r)) (atA n c r).1 (atA n c r).2.1 (atA n c r).2.2 (backA n c r).1 (backA n c r).2.1 (backA n c r).2.2
  (if s=2 then backA n c r else atA n c r).1 (if s=2 then backA n c r else atA n c r).2.1 (if s=2 then backA n c r else atA n c r).2.2 _ _ _ _ _ _ _ _ _ _ _ _ sa sn sc _ w hL (h 11 (by decide)) rfl
  (fun w1=>refBlock_any cs n c r sa sn sc w1 h hL) (fun w1=>refRectOf_any 0 0 (blkW n c) (blkH n r) w1) (fun w1=>refAt_any cs n c r sa sn sc w1 h hL hf) (fun w1=>refABack_any cs n c r sa sn sc w1 h hL hf) (fun w1=>refSide_any cs n c r s sa sn sc w1 h hL hf)
  (fun w1=>refBoxOf_any (atA n c r) 0 0 (w64 (0+blkW n c)) (w64 (0+blkH n r)) w1 i0 i0 (w64_in _) (w64_in _)) (fun w1=>refBoxOf_any (backA n c r) 0 0 (w64 (0+blkW n c)) (w64 (0+blkH n r)) w1 i0 i0 (w64_in _) (w64_in _))
  (fun w1=>refBoxOf_any (if s=2 then backA n c r else atA n c r) 0 0 (w64 (0+blkW n c)) (w64 (0+blkH n r)) w1 i0 i0 (w64_in _) (w64_in _))
 simp only [decide_eq_true_eq] at K
 exact K
def outO2 (n:Nat→Int) (c r:Int):Int×Int:=if mayA n c r=true then (outW n c r,outH n c r) else (0,0)
def fitsO (n:Nat→Int) (c r:Int):Bool:=mayA n c r&&fitsA n c r
def atO2 (n:Nat→Int) (c r:Int):Int×Int×Int:=if mayA n c r=true then atA n c r else (0,0,0)
def backO2 (n:Nat→Int) (c r:Int):Int×Int×Int:=if mayA n c r=true then backA n c r else (0,0,0)
def blocksO (n:Nat→Int) (c r s:Int):List (Int×Int×Int×Int):=if mayA n c r=true∧(s=1∨s=2∧n 11<3) then blocksA n c r s else []
def ArOuter:Prop:=∀ (cs:List Value) (j:Jb) (c r:Int) (sa:Option Addr) (sn sc:Nat) (w:World),JobA w cs j→(∀ i,I64 (j.n i))→I64 c→I64 r →
 Calls Try.prog 7 #[.agg cs.toArray,.agg #[.int .i64 c,.int .i64 r,.slice sa sn sc]] w fun e w'=>e=.returned (.tuple #[.int .i64 (outO2 j.n c r).1,.int .i64 (outO2 j.n c r).2])∧Below w.heap.size w w'
def ArFits:Prop:=∀ (cs:List Value) (j:Jb) (c r:Int) (sa:Option Addr) (sn sc:Nat) (w:World),JobA w cs j→(∀ i,I64 (j.n i))→I64 c→I64 r →
 Calls Try.prog 9 #[.agg cs.toArray,.agg #[.int .i64 c,.int .i64 r,.slice sa sn sc]] w fun e w'=>e=.returned (.bool (fitsO j.n c r))∧Below w.heap.size w w'
def ArAt:Prop:=∀ (cs:List Value) (j:Jb) (c r:Int) (sa:Option Addr) (sn sc:Nat) (w:World),JobA w cs j→(∀ i,I64 (j.n i))→I64 c→I64 r →
 Calls Try.prog 10 #[.agg cs.toArray,.agg #[.int .i64 c,.int .i64 r,.slice sa sn sc]] w fun e w'=>e=.returned (plV (atO2 j.n c r))∧Below w.heap.size w w'
def ArBack:Prop:=∀ (cs:List Value) (j:Jb) (c r:Int) (sa:Option Addr) (sn sc:Nat) (w:World),JobA w cs j→(∀ i,I64 (j.n i))→I64 c→I64 r →
 Calls Try.prog 11 #[.agg cs.toArray,.agg #[.int .i64 c,.int .i64 r,.slice sa sn sc]] w fun e w'=>e=.returned (plV (backO2 j.n c r))∧Below w.heap.size w w'
def ArBlocks:Prop:=∀ (cs:List Value) (j:Jb) (c r s:Int) (sa:Option Addr) (sn sc:Nat) (w:World),JobA w cs j→(∀ i,I64 (j.n i))→I64 c→I64 r→I64 s →
 Calls Try.prog 12 #[.agg cs.toArray,.agg #[.int .i64 c,.int .i64 r,.slice sa sn sc],.int .i64 s] w fun e w'=>∃ a cap,e=.returned (.slice a (blocksO j.n c r s).length cap)∧RcsA w' a (blocksO j.n c r s)∧Below w.heap.size w w'
def qJ:Jb:={ usualJ with n:=setN usualN 20 1 }
theorem usual_in (i:Nat):I64 (usualN i):=by
 by_cases h:i<28
 ·exact (show ∀ k:Fin 28,I64 (usualN k.val) from by unfold I64;decide +kernel) ⟨i,h⟩
 ·unfold usualN
  have hl:usualL.length=28:=by decide
  rw [List.getD_eq_getElem?_getD,List.getElem?_eq_none (by omega)]
  unfold I64
  decide
theorem q_in (i:Nat):I64 (qJ.n i):=by
 show I64 (setN usualN 20 1 i)
 unfold setN
 split
 ·unfold I64;omega
 ·exact usual_in i
theorem q_at:atO2 qJ.n 2 2=(1,540000,299000):=by decide +kernel
theorem q_out:outO2 qJ.n 2 2=(440000,306000):=by decide +kernel
theorem q_fits:fitsO qJ.n 2 2=true:=by decide +kernel
theorem q_box:boxOf (1,540000,299000) 0 0 1 1=(539999,299000,540000,299001):=by decide +kernel
set_option maxRecDepth 100000 in
set_option maxHeartbeats 2000000 in
theorem arAlive_any (KO:ArOuter) (KF:ArFits) (KA:ArAt) (w:World):Calls Try.prog 6 #[] w fun e w'=>e=.returned (.bool true)∧Below w.heap.size w w':=by
 have HU:=Lib.hid (refUsual_any w)
 have HKO:=Lib.hid KO;have HKF:=Lib.hid KF;have HKA:=Lib.hid KA
 clear KO KF KA
 go_enter Try.func6,Try.ntmps6
 go_wp2_with fail
 refine HU.out.mono ?_
 rintro e w1 ⟨cs,rfl,hJ,hb⟩
 have hl:=hJ.jobA.length
 have HL:=Lib.hid hl
 have H1:=Lib.hid hJ.jobA.one
 have HZ:=Lib.hid (Bx.new w1 29 zeroL)
 have HJ:=Lib.hid hJ
 have HB:=Lib.hid (up_alloc hb (.cells zeroL.toArray 29))
 have HK:=Lib.hid (show ∀ p:Addr,p.block≠w1.heap.size→∀ v,w1.cell? p=some v→(w1.alloc (.cells zeroL.toArray 29)).cell? p=some v from fun p _ v hv=>bl_cell (up_alloc (Below.refl _ w1) _) hv)
 have hlow:=hb.size
 clear hJ hl hb
 go_wp2_with (first
  | (refine wpList_alloc_to rfl 29 rfl _ _ (job_alloc _) ?_;simp only [Act.put,List.setIfInBounds_toArray,List.set_cons_succ,List.set_cons_zero];obtain ⟨w2,hw2⟩:∃ w2,w1.alloc (.cells zeroL.toArray 29)=w2:=⟨_,rfl⟩;rw [hw2] at HZ HB HK ⊢;clear hw2)
  | (refine wpList_store_job rfl _ _ rfl w1.heap.size rfl zeroL cs rfl HZ.out rfl HL.out H1.out ?_;simp only [Act.put];refine wpList_nil ?_;rename_i hK;refine hK _ _ ?_;clear hK;refine Hid.out ?_))
 refine Lib.hid ?_
 have HX3:=Lib.hid (HZ.out.sets (ws:=cs) (by rw [HL.out];rfl))
 have HB3:=Lib.hid (below_setCells (show w.heap.size≤w1.heap.size from hlow) cs 0 _ HB.out)
 have HK3:=Lib.hid (show ∀ p:Addr,p.block≠w1.heap.size→∀ v,w1.cell? p=some v→(w2.setCells w1.heap.size 0 cs).cell? p=some v from fun p hp v hv=>keep_sets _ w1.heap.size 0 cs p hp v (HK.out p hp v hv))
 obtain ⟨w3,hw3⟩:∃ w3,w2.setCells w1.heap.size 0 cs=w3:=⟨_,rfl⟩
 rw [hw3] at HX3 HB3 HK3 ⊢
 clear hw3 HZ HB HK
 have hC:=HJ.out.jobA.numC
 obtain ⟨a,c,a',c',e,hI,hT⟩:=HJ.out.jobA
 have c25:=HX3.out.cell 25 (hC 20 (by decide));have f3:=HX3.out.free
 have X4:=HX3.out.set 25 (.int .i64 1)
 have J5:=Lib.hid ((usual_kept HJ.out.jobA (Nat.le_refl _) (keep_one HK3.out 25 (.int .i64 1))).put (k:=20) (by decide) 1)
 have B5:=Lib.hid (up_set HB3.out (p:=⟨w1.heap.size,25,none⟩) (by simp only;omega) (.int .i64 1))
 have hl5:(cs.set 25 (.int .i64 1)).length=33:=by rw [List.length_set];exact HL.out
 have g12:(cs.set 25 (.int .i64 1))[12]?=some (.int .i64 2):=by rw [List.getElem?_set_ne (by decide),e];rfl
 have g13:(cs.set 25 (.int .i64 1))[13]?=some (.int .i64 2):=by rw [List.getElem?_set_ne (by decide),e];rfl
 have g14:(cs.set 25 (.int .i64 1))[14]?=some (.slice a 2 c):=by rw [List.getElem?_set_ne (by decide),e];rfl
 clear e hI hT hC
 have J6:Hid (JobA (w3.setCell ⟨w1.heap.size,25,none⟩ (.int .i64 1)) (cs.set 25 (.int .i64 1)) qJ):=J5
 clear J5 HX3 HB3 HK3 HJ H1
 generalize cs.set 25 (.int .i64 1)=ds at *
 have b12:=X4.cell 12 g12;have b13:=X4.cell 13 g13;have b14:=X4.cell 14 g14
 have X5:=Lib.hid X4
 have HL5:=Lib.hid hl5;have HG:=Lib.hid (And.intro g12 (And.intro g13 g14))
 clear X4 hl5 g12 g13 g14
 have i2:I64 2:=by unfold I64;omega
 go_wp2_with (refine wpList_load_job rfl _ rfl w1.heap.size rfl ds X5.out HL5.out ?_;simp only [Act.put,List.setIfInBounds_toArray,List.set_cons_succ,List.set_cons_zero])
 refine (HKA.out ds qJ 2 2 a 2 c _ J6.out q_in i2 i2).mono ?_
 rw [q_at]
 rintro e w6 ⟨rfl,hb⟩
 have X6:=Lib.hid (X5.out.later (by rw [HL5.out];decide) hb)
 have J7:=Lib.hid (J6.out.up hb)
 have B6:=Lib.hid (up_trans B5.out hb)
 clear hb X5 J6 B5 b12 b13 b14 c25 f3
 unfold plV
 simp only
 have KB:=fun w=>refBoxOf_any (1,540000,299000) 0 0 1 1 w (by unfold I64;omega) (by unfold I64;omega) (by unfold I64;omega) (by unfold I64;omega)
 rw [q_box] at KB
 have HB:=Lib.hid KB
 clear KB
 go_wp2_with fail
 refine (HB.out _).mono ?_
 rintro e w7 ⟨rfl,hb⟩
 have U:=up_alloc (Below.refl _ w7) (.cells #[.int .i64 539999,.int .i64 299000,.int .i64 540000,.int .i64 299001] 40)
 have S:=Bx.new w7 40 [.int .i64 539999,.int .i64 299000,.int .i64 540000,.int .i64 299001]
 have X7:=Lib.hid ((X6.out.later (by rw [HL5.out];decide) hb).later (by rw [HL5.out];decide) U)
 have J8:=Lib.hid ((J7.out.up hb).up U)
 have B7:=Lib.hid (up_trans (up_trans B6.out hb) U)
 have b12:=X7.out.cell 12 HG.out.1;have b13:=X7.out.cell 13 HG.out.2.1;have b14:=X7.out.cell 14 HG.out.2.2
 clear hb X6 J7 B6 U HB
 go_wp2_with (refine wpList_load_job rfl _ rfl w1.heap.size rfl ds X7.out HL5.out ?_;simp only [Act.put,List.setIfInBounds_toArray,List.set_cons_succ,List.set_cons_zero])
 refine (HKO.out ds qJ 2 2 a 2 c _ J8.out q_in i2 i2).mono ?_
 rw [q_out]
 rintro e w8 ⟨rfl,hb⟩
 have X8:=Lib.hid (X7.out.later (by rw [HL5.out];decide) hb)
 have J9:=Lib.hid (J8.out.up hb)
 have B8:=Lib.hid (up_trans B7.out hb)
 have S8:=S.up hb
 clear b12 b13 b14
 have b12:=X8.out.cell 12 HG.out.1;have b13:=X8.out.cell 13 HG.out.2.1;have b14:=X8.out.cell 14 HG.out.2.2
 have s2:=S8.cell 2 rfl
 clear hb X7 J8 B7 S S8
 go_wp2_with (refine wpList_load_job_want _ rfl rfl w1.heap.size rfl ds X8.out HL5.out ?_;simp only [Act.put,List.setIfInBounds_toArray,List.set_cons_succ,List.set_cons_zero])
 refine (HKF.out ds qJ 2 2 a 2 c _ J9.out q_in i2 i2).mono ?_
 rw [q_fits]
 rintro e w9 ⟨rfl,hb⟩
 have B9:=Lib.hid (up_trans B8.out hb)
 clear hb
 go_wp2
 go_ret
 exact ⟨rfl,B9.out⟩
set_option maxRecDepth 100000 in
set_option maxHeartbeats 4000000 in
theorem arTells_core (cs:List Value) (c r O0 O1 A0 A1 A2 B0 B1 B2:Int) (sa:Option Addr) (sn sc:Nat) (m ft:Bool) (w:World) (hL:cs.length=33) (hno:m=false→O0=0∧O1=0∧ft=false∧A0=0∧A1=0∧A2=0∧B0=0∧B1=0∧B2=0)
  (KA:∀ w1,Below w.heap.size w w1→Calls Try.prog 6 #[] w1 fun e w'=>e=.returned (.bool true)∧Below w1.heap.size w1 w')
  (KO:∀ w1,Below w.heap.size w w1→Calls Try.prog 7 #[.agg cs.toArray,.agg #[.int .i64 c,.int .i64 r,.slice sa sn sc]] w1 fun e w'=>e=.returned (.tuple #[.int .i64 O0,.int .i64 O1])∧Below w1.heap.size w1 w')
  (KM:∀ w1,Calls Try.prog 8 #[.agg cs.toArray,.agg #[.int .i64 c,.int .i64 r,.slice sa sn sc]] w1 fun e w'=>e=.returned (.bool m)∧Below w1.heap.size w1 w')
  (KF:∀ w1,Below w.heap.size w w1→Calls Try.prog 9 #[.agg cs.toArray,.agg #[.int .i64 c,.int .i64 r,.slice sa sn sc]] w1 fun e w'=>e=.returned (.bool ft)∧Below w1.heap.size w1 w')
  (KT:∀ w1,Below w.heap.size w w1→Calls Try.prog 10 #[.agg cs.toArray,.agg #[.int .i64 c,.int .i64 r,.slice sa sn sc]] w1 fun e w'=>e=.returned (.agg #[.int .i64 A0,.int .i64 A1,.int .i64 A2])∧Below w1.heap.size w1 w')
  (KC:∀ w1,Below w.heap.size w w1→Calls Try.prog 11 #[.agg cs.toArray,.agg #[.int .i64 c,.int .i64 r,.slice sa sn sc]] w1 fun e w'=>e=.returned (.agg #[.int .i64 B0,.int .i64 B1,.int .i64 B2])∧Below w1.heap.size w1 w')
  (KL:m=false→∀ w1,Below w.heap.size w w1→Calls Try.prog 12 #[.agg cs.toArray,.agg #[.int .i64 c,.int .i64 r,.slice sa sn sc],.int .i64 1] w1 fun e w'=>∃ a cap,e=.returned (.slice a 0 cap)∧Below w1.heap.size w1 w')
  (RO:∀ w1,Calls Try.prog 13 #[.agg cs.toArray,.agg #[.int .i64 c,.int .i64 r,.slice sa sn sc]] w1 fun e w'=>e=.returned (.tuple #[.int .i64 O0,.int .i64 O1])∧Below w1.heap.size w1 w')
  (RF:∀ w1,Calls Try.prog 14 #[.agg cs.toArray,.agg #[.int .i64 c,.int .i64 r,.slice sa sn sc]] w1 fun e w'=>e=.returned (.bool ft)∧Below w1.heap.size w1 w')
  (RT:m=true→∀ w1,Calls Try.prog 15 #[.agg cs.toArray,.agg #[.int .i64 c,.int .i64 r,.slice sa sn sc]] w1 fun e w'=>e=.returned (.agg #[.int .i64 A0,.int .i64 A1,.int .i64 A2])∧Below w1.heap.size w1 w')
  (RC:m=true→∀ w1,Calls Try.prog 16 #[.agg cs.toArray,.agg #[.int .i64 c,.int .i64 r,.slice sa sn sc]] w1 fun e w'=>e=.returned (.agg #[.int .i64 B0,.int .i64 B1,.int .i64 B2])∧Below w1.heap.size w1 w') :
  Calls Try.prog 3 #[.agg cs.toArray,.agg #[.int .i64 c,.int .i64 r,.slice sa sn sc]] w fun e w'=>e=.returned (.bool true)∧Below w.heap.size w w':=by
 have G0:=Lib.hid (JFr.new w hL c r (.slice sa sn sc))
 have HL:=Lib.hid hL;have HN:=Lib.hid hno
 have HA:=Lib.hid KA;have HO:=Lib.hid KO;have HM:=Lib.hid KM;have HF:=Lib.hid KF;have HT:=Lib.hid KT;have HC:=Lib.hid KC;have HLs:=Lib.hid KL;have XO:=Lib.hid RO;have XF:=Lib.hid RF;have XT:=Lib.hid RT;have XC:=Lib.hid RC
 clear hL hno KA KO KM KF KT KC KL RO RF RT RC
 go_enter Try.func3,Try.ntmps3
 go_wp2_with fail
 refine (HA.out _ G0.out.b).mono ?_
 rintro e w1 ⟨rfl,hb⟩
 have G1:=Lib.hid (G0.out.up HL.out hb)
 have s0:=G1.out.s.cell 0 rfl;have s1:=G1.out.s.cell 1 rfl;have s2:=G1.out.s.cell 2 rfl
 clear hb G0
 go_wp2_with (refine wpList_load_job rfl _ rfl w.heap.size rfl cs G1.out.x HL.out ?_;simp only [Act.put,List.setIfInBounds_toArray,List.set_cons_succ,List.set_cons_zero])
 refine (HO.out _ G1.out.b).mono ?_
 rintro e w2 ⟨rfl,hb⟩
 have G2:=Lib.hid (G1.out.up HL.out hb)
 clear s0 s1 s2 hb G1
 have s0:=G2.out.s.cell 0 rfl;have s1:=G2.out.s.cell 1 rfl;have s2:=G2.out.s.cell 2 rfl
 go_wp2_with (refine wpList_load_job rfl _ rfl w.heap.size rfl cs G2.out.x HL.out ?_;simp only [Act.put,List.setIfInBounds_toArray,List.set_cons_succ,List.set_cons_zero])
 refine (HM.out _).mono ?_
 rintro e w3 ⟨rfl,hb⟩
 have G3:=Lib.hid (G2.out.up HL.out hb)
 clear s0 s1 s2 hb G2
 cases m
 ·obtain ⟨rfl,rfl,rfl,rfl,rfl,rfl,rfl,rfl,rfl⟩:=HN.out (by trivial)
  have KL:=HLs.out (by trivial)
  have HK:=Lib.hid KL
  clear KL HLs XT XC HN
  have s0:=G3.out.s.cell 0 rfl;have s1:=G3.out.s.cell 1 rfl;have s2:=G3.out.s.cell 2 rfl
  go_wp2_with (refine wpList_load_job_want _ rfl rfl w.heap.size rfl cs G3.out.x HL.out ?_;simp only [Act.put,List.setIfInBounds_toArray,List.set_cons_succ,List.set_cons_zero])
  refine (HF.out _ G3.out.b).mono ?_
  rintro e w4 ⟨rfl,hb⟩
  have G4:=Lib.hid (G3.out.up HL.out hb)
  clear s0 s1 s2 hb G3
  have s0:=G4.out.s.cell 0 rfl;have s1:=G4.out.s.cell 1 rfl;have s2:=G4.out.s.cell 2 rfl
  go_wp2_with (refine wpList_load_job_want _ rfl rfl w.heap.size rfl cs G4.out.x HL.out ?_;simp only [Act.put,List.setIfInBounds_toArray,List.set_cons_succ,List.set_cons_zero])
  refine (HT.out _ G4.out.b).mono ?_
  rintro e w5 ⟨rfl,hb⟩
  have G5:=Lib.hid (G4.out.up HL.out hb)
  clear s0 s1 s2 hb G4
  have s0:=G5.out.s.cell 0 rfl;have s1:=G5.out.s.cell 1 rfl;have s2:=G5.out.s.cell 2 rfl
  go_wp2_with (refine wpList_load_job_want _ rfl rfl w.heap.size rfl cs G5.out.x HL.out ?_;simp only [Act.put,List.setIfInBounds_toArray,List.set_cons_succ,List.set_cons_zero])
  refine (HC.out _ G5.out.b).mono ?_
  rintro e w6 ⟨rfl,hb⟩
  have G6:=Lib.hid (G5.out.up HL.out hb)
  clear s0 s1 s2 hb G5
  have s0:=G6.out.s.cell 0 rfl;have s1:=G6.out.s.cell 1 rfl;have s2:=G6.out.s.cell 2 rfl
  go_wp2_with (refine wpList_load_job_want _ rfl rfl w.heap.size rfl cs G6.out.x HL.out ?_;simp only [Act.put,List.setIfInBounds_toArray,List.set_cons_succ,List.set_cons_zero])
  refine (HK.out _ G6.out.b).mono ?_
  rintro e w7 ⟨a7,c7,rfl,hb⟩
  have B7:=Lib.hid (up_trans G6.out.b hb)
  clear s0 s1 s2 hb G6
  go_wp2
  go_ret
  exact ⟨rfl,B7.out⟩
 ·have KT:=XT.out (by trivial)
  have KC:=XC.out (by trivial)
  have HT2:=Lib.hid KT;have HC2:=Lib.hid KC
  clear KT KC XT XC HLs HN
  have s0:=G3.out.s.cell 0 rfl;have s1:=G3.out.s.cell 1 rfl;have s2:=G3.out.s.cell 2 rfl
  go_wp2_with (refine wpList_load_job rfl _ rfl w.heap.size rfl cs G3.out.x HL.out ?_;simp only [Act.put,List.setIfInBounds_toArray,List.set_cons_succ,List.set_cons_zero])
  refine (XO.out _).mono ?_
  rintro e w4 ⟨rfl,hb⟩
  have G4:=Lib.hid (G3.out.up HL.out hb)
  clear s0 s1 s2 hb G3
  go_wp2_with fail
  have s0:=fun x:Later w4=>x.cell (G4.out.s.cell 0 rfl);have s1:=fun x:Later w4=>x.cell (G4.out.s.cell 1 rfl);have s2:=fun x:Later w4=>x.cell (G4.out.s.cell 2 rfl)
  have HRG:=Lib.hid (later_range G4.out.x (by rw [HL.out];decide))
  have kb:=fun w=>(show (binOp .eql 4 (.bool ft) (.bool ft)).run Try.prog w=.ok (.bool true) w from by cases ft<;>kernel_rfl)
  have k3:=fun w=>run_eq3 A0 A1 A2 w
  have k4:=fun w=>run_eq3 B0 B1 B2 w
  refine later_start (w:=w4) ?_
  intro y
  refine wp_region_later (by kernel_rfl) (by kernel_rfl) ?_
  repeat (first
   | (go_big_quiet_want;refine quiet_load_job _ rfl w.heap.size rfl cs HL.out HRG.out ?_;simp only [Act.put,List.setIfInBounds_toArray,List.set_cons_succ,List.set_cons_zero];go_big_quiet_on)
   | go_big_quiet_step (first
    | (go_at_call 9;with_reducible exact Later.call (HF.out _ (up_trans G4.out.b (Later.up _))))
    | (go_at_call 14;with_reducible exact Later.call (XF.out _))
    | (go_at_call 10;with_reducible exact Later.call (HT.out _ (up_trans G4.out.b (Later.up _))))
    | (go_at_call 15;with_reducible exact Later.call (HT2.out _))
    | (go_at_call 11;with_reducible exact Later.call (HC.out _ (up_trans G4.out.b (Later.up _))))
    | (go_at_call 16;with_reducible exact Later.call (HC2.out _))))
  refine wpQuiet_nil ?_
  rintro _ ⟨y2,rfl⟩
  have BB:=Lib.hid (up_trans G4.out.b y2.up)
  clear s0 s1 s2
  go_wp2
  go_ret
  exact ⟨rfl,BB.out⟩
set_option maxRecDepth 100000 in
set_option maxHeartbeats 4000000 in
theorem arTells_no (cs:List Value) (c r:Int) (sa:Option Addr) (sn sc:Nat) (w:World) (hL:cs.length=33)
  (KA:∀ w1,Below w.heap.size w w1→Calls Try.prog 6 #[] w1 fun e w'=>e=.returned (.bool true)∧Below w1.heap.size w1 w')
  (KO:∀ w1,Below w.heap.size w w1→Calls Try.prog 7 #[.agg cs.toArray,.agg #[.int .i64 c,.int .i64 r,.slice sa sn sc]] w1 fun e w'=>e=.returned (.tuple #[.int .i64 0,.int .i64 0])∧Below w1.heap.size w1 w')
  (KM:∀ w1,Calls Try.prog 8 #[.agg cs.toArray,.agg #[.int .i64 c,.int .i64 r,.slice sa sn sc]] w1 fun e w'=>e=.returned (.bool false)∧Below w1.heap.size w1 w')
  (KF:∀ w1,Below w.heap.size w w1→Calls Try.prog 9 #[.agg cs.toArray,.agg #[.int .i64 c,.int .i64 r,.slice sa sn sc]] w1 fun e w'=>e=.returned (.bool false)∧Below w1.heap.size w1 w')
  (KT:∀ w1,Below w.heap.size w w1→Calls Try.prog 10 #[.agg cs.toArray,.agg #[.int .i64 c,.int .i64 r,.slice sa sn sc]] w1 fun e w'=>e=.returned (.agg #[.int .i64 0,.int .i64 0,.int .i64 0])∧Below w1.heap.size w1 w')
  (KC:∀ w1,Below w.heap.size w w1→Calls Try.prog 11 #[.agg cs.toArray,.agg #[.int .i64 c,.int .i64 r,.slice sa sn sc]] w1 fun e w'=>e=.returned (.agg #[.int .i64 0,.int .i64 0,.int .i64 0])∧Below w1.heap.size w1 w')
  (KL:∀ w1,Below w.heap.size w w1→Calls Try.prog 12 #[.agg cs.toArray,.agg #[.int .i64 c,.int .i64 r,.slice sa sn sc],.int .i64 1] w1 fun e w'=>∃ a cap,e=.returned (.slice a 0 cap)∧Below w1.heap.size w1 w') :
  Calls Try.prog 3 #[.agg cs.toArray,.agg #[.int .i64 c,.int .i64 r,.slice sa sn sc]] w fun e w'=>e=.returned (.bool true)∧Below w.heap.size w w':=by
 have G0:=Lib.hid (JFr.new w hL c r (.slice sa sn sc))
 have HL:=Lib.hid hL
 have HA:=Lib.hid KA;have HO:=Lib.hid KO;have HM:=Lib.hid KM;have HF:=Lib.hid KF;have HT:=Lib.hid KT;have HC:=Lib.hid KC;have HLs:=Lib.hid KL
 clear hL KA KO KM KF KT KC KL
 go_enter Try.func3,Try.ntmps3
 go_wp2_with fail
 refine (HA.out _ G0.out.b).mono ?_
 rintro e w1 ⟨rfl,hb⟩
 have G1:=Lib.hid (G0.out.up HL.out hb)
 have s0:=G1.out.s.cell 0 rfl;have s1:=G1.out.s.cell 1 rfl;have s2:=G1.out.s.cell 2 rfl
 clear hb G0
 go_wp2_with (refine wpList_load_job rfl _ rfl w.heap.size rfl cs G1.out.x HL.out ?_;simp only [Act.put,List.setIfInBounds_toArray,List.set_cons_succ,List.set_cons_zero])
 refine (HO.out _ G1.out.b).mono ?_
 rintro e w2 ⟨rfl,hb⟩
 have G2:=Lib.hid (G1.out.up HL.out hb)
 clear s0 s1 s2 hb G1
 have s0:=G2.out.s.cell 0 rfl;have s1:=G2.out.s.cell 1 rfl;have s2:=G2.out.s.cell 2 rfl
 go_wp2_with (refine wpList_load_job rfl _ rfl w.heap.size rfl cs G2.out.x HL.out ?_;simp only [Act.put,List.setIfInBounds_toArray,List.set_cons_succ,List.set_cons_zero])
 refine (HM.out _).mono ?_
 rintro e w3 ⟨rfl,hb⟩
 have G3:=Lib.hid (G2.out.up HL.out hb)
 clear s0 s1 s2 hb G2
 have HK:=HLs
 clear HLs
 have s0:=G3.out.s.cell 0 rfl;have s1:=G3.out.s.cell 1 rfl;have s2:=G3.out.s.cell 2 rfl
 go_wp2_with (refine wpList_load_job_want _ rfl rfl w.heap.size rfl cs G3.out.x HL.out ?_;simp only [Act.put,List.setIfInBounds_toArray,List.set_cons_succ,List.set_cons_zero])
 refine (HF.out _ G3.out.b).mono ?_
 rintro e w4 ⟨rfl,hb⟩
 have G4:=Lib.hid (G3.out.up HL.out hb)
 clear s0 s1 s2 hb G3
 have s0:=G4.out.s.cell 0 rfl;have s1:=G4.out.s.cell 1 rfl;have s2:=G4.out.s.cell 2 rfl
 go_wp2_with (refine wpList_load_job_want _ rfl rfl w.heap.size rfl cs G4.out.x HL.out ?_;simp only [Act.put,List.setIfInBounds_toArray,List.set_cons_succ,List.set_cons_zero])
 refine (HT.out _ G4.out.b).mono ?_
 rintro e w5 ⟨rfl,hb⟩
 have G5:=Lib.hid (G4.out.up HL.out hb)
 clear s0 s1 s2 hb G4
 have s0:=G5.out.s.cell 0 rfl;have s1:=G5.out.s.cell 1 rfl;have s2:=G5.out.s.cell 2 rfl
 go_wp2_with (refine wpList_load_job_want _ rfl rfl w.heap.size rfl cs G5.out.x HL.out ?_;simp only [Act.put,List.setIfInBounds_toArray,List.set_cons_succ,List.set_cons_zero])
 refine (HC.out _ G5.out.b).mono ?_
 rintro e w6 ⟨rfl,hb⟩
 have G6:=Lib.hid (G5.out.up HL.out hb)
 clear s0 s1 s2 hb G5
 have s0:=G6.out.s.cell 0 rfl;have s1:=G6.out.s.cell 1 rfl;have s2:=G6.out.s.cell 2 rfl
 go_wp2_with (refine wpList_load_job_want _ rfl rfl w.heap.size rfl cs G6.out.x HL.out ?_;simp only [Act.put,List.setIfInBounds_toArray,List.set_cons_succ,List.set_cons_zero])
 refine (HK.out _ G6.out.b).mono ?_
 rintro e w7 ⟨a7,c7,rfl,hb⟩
 have B7:=Lib.hid (up_trans G6.out.b hb)
 clear s0 s1 s2 hb G6
 go_wp2
 go_ret
 exact ⟨rfl,B7.out⟩
theorem may_first {n:Nat→Int} {c r:Int} (h:mayA n c r=true):firstJ n<0∧0<panM c r:=by
 unfold mayA at h
 simpa using h
theorem walkAreaTellsK (KO:ArOuter) (KF:ArFits) (KA:ArAt) (KC:ArBack) (KL:ArBlocks) (cs:List Value) (j:Jb) (c r:Int) (ad:Option Addr) (len cap:Nat) (w:World) (h:(JobA w cs j∧j.t.length≤maxLen∧∀ p∈j.ls,p.length≤maxLen)∧(∀ i,-9223372036854775808≤j.n i∧j.n i≤9223372036854775807)) (x0:(Lit.int .i64 c).wf=true) (x1:(Lit.int .i64 r).wf=true) (hs:(ad=none∧len=0∧cap=0)∨∃ x,ad=some x∧len≤cap∧cap≤maxLen∧∀ i,i<len→(∃ z,w.cell? (x.add (i*3+0))=some (.int .i64 z)∧(Lit.int .i64 z).wf=true)∧(∃ z,w.cell? (x.add (i*3+1))=some (.int .i64 z)∧(Lit.int .i64 z).wf=true)∧(∃ z,w.cell? (x.add (i*3+2))=some (.bool z))) :
  Calls Try.prog 3 #[.agg cs.toArray,.agg #[.int .i64 c,.int .i64 r,.slice ad len cap]] w fun e w'=>e=.returned (.bool true)∧Below w.heap.size w w':=by
 have hJ:=h.1.1
 have hN:=hJ.numC
 have hL:=hJ.length
 have ic:=wf_i64 x0;have ir:=wf_i64 x1
 have i1:I64 1:=by unfold I64;omega
 cases hm:mayA j.n c r
 ·have KO2:=fun w1 (hb:Below w.heap.size w w1)=>KO cs j c r ad len cap w1 (hJ.up hb) h.2 ic ir
  have KF2:=fun w1 (hb:Below w.heap.size w w1)=>KF cs j c r ad len cap w1 (hJ.up hb) h.2 ic ir
  have KA2:=fun w1 (hb:Below w.heap.size w w1)=>KA cs j c r ad len cap w1 (hJ.up hb) h.2 ic ir
  have KC2:=fun w1 (hb:Below w.heap.size w w1)=>KC cs j c r ad len cap w1 (hJ.up hb) h.2 ic ir
  have KM:=fun w1=>refMayA_any cs j.n c r ad len cap w1 hN hL
  have z1:outO2 j.n c r=(0,0):=by unfold outO2;rw [hm];rfl
  have z2:fitsO j.n c r=false:=by unfold fitsO;rw [hm];rfl
  have z3:atO2 j.n c r=(0,0,0):=by unfold atO2;rw [hm];rfl
  have z4:backO2 j.n c r=(0,0,0):=by unfold backO2;rw [hm];rfl
  rw [z1] at KO2
  rw [z2] at KF2
  rw [z3] at KA2
  rw [z4] at KC2
  rw [hm] at KM
  exact arTells_no cs c r ad len cap w hL (fun w1 hb=>arAlive_any KO KF KA w1) KO2 KM KF2 KA2 KC2 (fun w1 hb=>(KL cs j c r 1 ad len cap w1 (hJ.up hb) h.2 ic ir i1).mono fun e w' ⟨a,k,he,_,hb⟩=>⟨a,k,by
   rw [he]
   unfold blocksO
   rw [hm]
   simp,hb⟩)
 ·obtain ⟨hf,hp⟩:=may_first hm
  have KO2:=fun w1 (hb:Below w.heap.size w w1)=>KO cs j c r ad len cap w1 (hJ.up hb) h.2 ic ir
  have KF2:=fun w1 (hb:Below w.heap.size w w1)=>KF cs j c r ad len cap w1 (hJ.up hb) h.2 ic ir
  have KA2:=fun w1 (hb:Below w.heap.size w w1)=>KA cs j c r ad len cap w1 (hJ.up hb) h.2 ic ir
  have KC2:=fun w1 (hb:Below w.heap.size w w1)=>KC cs j c r ad len cap w1 (hJ.up hb) h.2 ic ir
  have KM:=fun w1=>refMayA_any cs j.n c r ad len cap w1 hN hL
  have z1:outO2 j.n c r=(outW j.n c r,outH j.n c r):=by unfold outO2;rw [hm];rfl
  have z2:fitsO j.n c r=fitsA j.n c r:=by unfold fitsO;rw [hm];rfl
  have z3:atO2 j.n c r=atA j.n c r:=by unfold atO2;rw [hm];rfl
  have z4:backO2 j.n c r=backA j.n c r:=by unfold backO2;rw [hm];rfl
  rw [z1] at KO2
  rw [z2] at KF2
  rw [z3] at KA2
  rw [z4] at KC2
  rw [hm] at KM
  exact arTells_core cs c r (outW j.n c r) (outH j.n c r) (atA j.n c r).1 (atA j.n c r).2.1 (atA j.n c r).2.2 (backA j.n c r).1 (backA j.n c r).2.1 (backA j.n c r).2.2 ad len cap true (fitsA j.n c r) w hL (fun e=>by cases e) (fun w1 hb=>arAlive_any KO KF KA w1) KO2 KM KF2 KA2 KC2 (fun e=>by cases e)
   (fun w1=>refOuter_any cs j.n c r ad len cap w1 hN hL) (fun w1=>refFits_any cs j.n c r ad len cap w1 hN hL) (fun _ w1=>refAt_any cs j.n c r ad len cap w1 hN hL hf) (fun _ w1=>refABack_any cs j.n c r ad len cap w1 hN hL hf)
theorem tiny64 {x:Int} (h:-1000000000000≤x∧x≤1000000000000):w64 x=x:=w64_self (by omega)
theorem area_nums {n:Nat→Int} (h:firstJ n<0):((1≤n 3∧n 3≤5000000)∧(1≤n 4∧n 4≤5000000)∧(0≤n 6∧n 6≤5000000)∧(0≤n 7∧n 7≤5000000)∧(0≤n 8∧n 8≤5000000)∧(0≤n 9∧n 9≤5000000))∧(1≤n 11∧n 11≤4)
  ∧ (1≤n 12∧n 12≤5000000)∧(1≤n 13∧n 13≤5000000)∧(0≤n 14∧n 14≤5000000)∧(0≤n 15∧n 15≤5000000)∧(0≤n 16∧n 16≤5000000)∧(0≤n 20∧n 20≤3) :=
 ⟨⟨first_all h 3 (by decide),first_all h 4 (by decide),first_all h 6 (by decide),first_all h 7 (by decide),first_all h 8 (by decide),first_all h 9 (by decide)⟩,first_all h 11 (by decide),first_all h 12 (by decide),first_all h 13 (by decide),first_all h 14 (by decide),first_all h 15 (by decide),first_all h 16 (by decide),first_all h 20 (by decide)⟩
theorem may_parts {n:Nat→Int} {c r:Int} (h:mayA n c r=true):firstJ n<0∧(1≤c∧c≤64)∧(1≤r∧r≤64):=by
 unfold mayA at h
 simp only [Bool.and_eq_true,decide_eq_true_eq] at h
 obtain ⟨h1,h2⟩:=h
 unfold panM sideB at h2
 split at h2
 next hs =>
  simp only [Bool.and_eq_true,decide_eq_true_eq] at hs
  exact ⟨h1,hs.1,hs.2⟩
 next=>omega
theorem blk_bounds {n:Nat→Int} {c r:Int} (h:mayA n c r=true):(1≤blkW n c∧blkW n c≤1000000000)∧(1≤blkH n r∧blkH n r≤2000000000):=by
 obtain ⟨hf,⟨c1,c2⟩,r1,r2⟩:=may_parts h
 obtain ⟨⟨h3,h4,h6,h7,h8,h9⟩,-⟩:=area_nums hf
 have e1:sizW n=n 9+n 3+n 8:=tiny64 (by omega)
 have e2:sizH n=n 7+n 4+n 6:=tiny64 (by omega)
 have s1:1≤sizW n∧sizW n≤15000000:=by omega
 have s2:1≤sizH n∧sizH n≤15000000:=by omega
 have m1:sizW n*c≤15000000*64:=Int.mul_le_mul s1.2 c2 (by omega) (by decide)
 have m2:1≤sizW n*c:=Int.mul_pos (by omega) (by omega)
 have m3:sizH n*r≤15000000*64:=Int.mul_le_mul s2.2 r2 (by omega) (by decide)
 have m4:1≤sizH n*r:=Int.mul_pos (by omega) (by omega)
 unfold blkW blkH copA
 rw [tiny64 (x:=sizW n*c) (by omega),tiny64 (x:=sizH n*r) (by omega)]
 generalize sizH n*r=p at *
 split
 ·rw [tiny64 (by omega)]
  omega
 ·rw [tiny64 (by omega)]
  omega
theorem mod_two {q:Int} (h:0≤q∧q≤3):(q.tmod 2==1)=(decide (q=1) || decide (q=3)):=by
 rw [Int.tmod_eq_emod_of_nonneg h.1,Bool.eq_iff_iff]
 simp
 omega
theorem pdo_small (x y X Y:Int) (hx:0≤x∧x≤2000000000) (hy:0≤y∧y≤2000000000) (hX:-10000000000≤X∧X≤10000000000) (hY:-10000000000≤Y∧Y≤10000000000) :
  pdo 0 X Y x y=(x+X,y+Y)∧pdo 1 X Y x y=(-y+X,x+Y)∧pdo 2 X Y x y=(-x+X,-y+Y)∧pdo 3 X Y x y=(y+X,-x+Y):=by
 refine ⟨Prod.ext_iff.2 ⟨?_,?_⟩,Prod.ext_iff.2 ⟨?_,?_⟩,Prod.ext_iff.2 ⟨?_,?_⟩,Prod.ext_iff.2 ⟨?_,?_⟩⟩
 ·show w64 (x+X)=_
  exact tiny64 (by omega)
 ·show w64 (y+Y)=_
  exact tiny64 (by omega)
 ·show w64 (w64 (-y)+X)=_
  rw [w64_addL];exact tiny64 (by omega)
 ·show w64 (x+Y)=_
  exact tiny64 (by omega)
 ·show w64 (w64 (-x)+X)=_
  rw [w64_addL];exact tiny64 (by omega)
 ·show w64 (w64 (-y)+Y)=_
  rw [w64_addL];exact tiny64 (by omega)
 ·show w64 (y+X)=_
  exact tiny64 (by omega)
 ·show w64 (w64 (-x)+Y)=_
  rw [w64_addL];exact tiny64 (by omega)
theorem region_small {n:Nat→Int} (h:firstJ n<0):(regionS n).1=n 14∧(0≤(regionS n).2.1∧(regionS n).2.1≤5000000)∧(-5000000≤(regionS n).2.2.1∧(regionS n).2.2.1≤5000000)∧(-5000000≤(regionS n).2.2.2∧(regionS n).2.2.2≤5000000)
  ∧ ((regionS n).2.2.1≤n 12-n 14)∧(regionS n).2.1=lowS n∧(regionS n).2.2.2≤topS n∧(n 11=3→(regionS n).2.2.1≤n 12 / 2)∧(n 11=4→(regionS n).2.2.2≤n 13 / 2)
  ∧ areaS n=(n 14,lowS n,n 12-n 14,topS n)∧(n 11=3→lowS n=n 15∧topS n=n 13-n 16)∧(n 11=4→lowS n=max (n 15) (n 16)∧topS n=n 13-max (n 15) (n 16)):=by
 obtain ⟨-,h11,h12,h13,h14,h15,h16,-⟩:=area_nums h
 have hs:styB (n 11)=true:=by unfold styB;simp;omega
 have e1:w64 (n 12-n 14)=n 12-n 14:=tiny64 (by omega)
 have e2:w64 (n 13-max (n 15) (n 16))=n 13-max (n 15) (n 16):=tiny64 (by omega)
 have e3:w64 (n 13-n 16)=n 13-n 16:=tiny64 (by omega)
 have hA:areaS n=(n 14,lowS n,n 12-n 14,topS n):=by
  unfold areaS
  rw [if_pos hs,e1]
 have hl:0≤lowS n∧lowS n≤5000000:=by unfold lowS;split<;>omega
 have ht:-5000000≤topS n∧topS n≤5000000:=by
  unfold topS
  rw [e2,e3]
  split<;>omega
 have h3:n 11=3→lowS n=n 15∧topS n=n 13-n 16:=fun e=>by
  have ha:acrB (n 11)=false:=by rw [e];decide
  unfold lowS topS
  rw [ha,e3]
  exact ⟨rfl,rfl⟩
 have h4:n 11=4→lowS n=max (n 15) (n 16)∧topS n=n 13-max (n 15) (n 16):=fun e=>by
  have ha:acrB (n 11)=true:=by rw [e];decide
  unfold lowS topS
  rw [ha,e2]
  exact ⟨rfl,rfl⟩
 unfold regionS
 rw [hA]
 simp only
 refine ⟨trivial,hl,?_,?_,?_,trivial,?_,?_,?_,trivial,h3,h4⟩
 ·split<;>omega
 ·split<;>omega
 ·split<;>omega
 ·split<;>omega
 ·intro e
  rw [if_pos e]
  omega
 ·intro e
  rw [if_pos e]
  omega
theorem blk_front {n:Nat→Int} {c r:Int} (h:mayA n c r=true) (hfit:fitsA n c r=true):∃ X Y w v:Int,blkOf n c r (atA n c r)=(X,Y,X+w,Y+v)∧(1≤w∧w≤5000000)∧(1≤v∧v≤5000000)
  ∧ (regionS n).1≤X∧X+w≤(regionS n).2.2.1∧(regionS n).2.1≤Y∧Y+v≤(regionS n).2.2.2
  ∧ (0≤(regionS n).2.2.1-(X+w)-(X-(regionS n).1)∧(regionS n).2.2.1-(X+w)-(X-(regionS n).1)≤1)∧(0≤(regionS n).2.2.2-(Y+v)-(Y-(regionS n).2.1)∧(regionS n).2.2.2-(Y+v)-(Y-(regionS n).2.1)≤1)
  ∧ (∀ b:Int×Int×Int,∃ x0 y0 x1 y1,(pdo b.1 b.2.1 b.2.2 (pdo (atA n c r).1 (atA n c r).2.1 (atA n c r).2.2 0 0).1 (pdo (atA n c r).1 (atA n c r).2.1 (atA n c r).2.2 0 0).2=pdo b.1 b.2.1 b.2.2 x0 y0
    ∧ pdo b.1 b.2.1 b.2.2 (pdo (atA n c r).1 (atA n c r).2.1 (atA n c r).2.2 (w64 (0+blkW n c)) (w64 (0+blkH n r))).1 (pdo (atA n c r).1 (atA n c r).2.1 (atA n c r).2.2 (w64 (0+blkW n c)) (w64 (0+blkH n r))).2=pdo b.1 b.2.1 b.2.2 x1 y1)
    ∧ ((x0=X∧x1=X+w)∨(x0=X+w∧x1=X))∧((y0=Y∧y1=Y+v)∨(y0=Y+v∧y1=Y))):=by
 obtain ⟨hf,-,-⟩:=may_parts h
 obtain ⟨-,h11,h12,h13,h14,h15,h16,h20⟩:=area_nums hf
 obtain ⟨b1,b2⟩:=blk_bounds h
 obtain ⟨g1,g2,g3,g4,g5,g6,g7,-,-⟩:=region_small hf
 have rx:roomX n=(regionS n).2.2.1-(regionS n).1:=tiny64 (by omega)
 have ry:roomY n=(regionS n).2.2.2-(regionS n).2.1:=tiny64 (by omega)
 unfold fitsA at hfit
 simp only [Bool.and_eq_true,decide_eq_true_eq] at hfit
 obtain ⟨f1,f2⟩:=hfit
 have z1:w64 (0+blkW n c)=blkW n c:=by rw [Int.zero_add];exact tiny64 (by omega)
 have z2:w64 (0+blkH n r)=blkH n r:=by rw [Int.zero_add];exact tiny64 (by omega)
 have ow:outW n c r=if (n 20=1∨n 20=3) then blkH n r else blkW n c:=by
  unfold outW turnedA
  rw [mod_two h20]
  simp only [Bool.or_eq_true,decide_eq_true_eq]
 have oh:outH n c r=if (n 20=1∨n 20=3) then blkW n c else blkH n r:=by
  unfold outH turnedA
  rw [mod_two h20]
  simp only [Bool.or_eq_true,decide_eq_true_eq]
 have pw:1≤outW n c r:=by rw [ow];split<;>omega
 have ph:1≤outH n c r:=by rw [oh];split<;>omega
 have ex:atX n c r=(regionS n).1+(roomX n-outW n c r) / 2:=by
  unfold atX
  rw [tiny64 (x:=roomX n-outW n c r) (by omega)]
  exact tiny64 (by omega)
 have ey:atY n c r=(regionS n).2.1+(roomY n-outH n c r) / 2:=by
  unfold atY
  rw [tiny64 (x:=roomY n-outH n c r) (by omega)]
  exact tiny64 (by omega)
 have ex2:w64 (atX n c r+outW n c r)=atX n c r+outW n c r:=tiny64 (by omega)
 have ey2:w64 (atY n c r+outH n c r)=atY n c r+outH n c r:=tiny64 (by omega)
 have main:∃ x0 y0 x1 y1,pdo (atA n c r).1 (atA n c r).2.1 (atA n c r).2.2 0 0=(x0,y0)∧pdo (atA n c r).1 (atA n c r).2.1 (atA n c r).2.2 (blkW n c) (blkH n r)=(x1,y1)
   ∧ ((x0=atX n c r∧x1=atX n c r+outW n c r)∨(x0=atX n c r+outW n c r∧x1=atX n c r))∧((y0=atY n c r∧y1=atY n c r+outH n c r)∨(y0=atY n c r+outH n c r∧y1=atY n c r)):=by
  unfold atA
  simp only [ex2,ey2]
  obtain h20 | h20 | h20 | h20:n 20=0∨n 20=1∨n 20=2∨n 20=3:=by omega
  ·rw [h20] at ow oh ⊢
   rw [if_neg (by omega)] at ow oh
   rw [if_neg (by omega),if_neg (by omega)]
   have p0:=(pdo_small 0 0 (atX n c r) (atY n c r) (by omega) (by omega) (by omega) (by omega)).1
   have p1:=(pdo_small (blkW n c) (blkH n r) (atX n c r) (atY n c r) (by omega) (by omega) (by omega) (by omega)).1
   exact ⟨_,_,_,_,p0,p1,by omega,by omega⟩
  ·rw [h20] at ow oh ⊢
   rw [if_pos (by omega)] at ow oh
   rw [if_pos (by omega),if_neg (by omega)]
   have p0:=(pdo_small 0 0 (atX n c r+outW n c r) (atY n c r) (by omega) (by omega) (by omega) (by omega)).2.1
   have p1:=(pdo_small (blkW n c) (blkH n r) (atX n c r+outW n c r) (atY n c r) (by omega) (by omega) (by omega) (by omega)).2.1
   exact ⟨_,_,_,_,p0,p1,by omega,by omega⟩
  ·rw [h20] at ow oh ⊢
   rw [if_neg (by omega)] at ow oh
   rw [if_pos (by omega),if_pos (by omega)]
   have p0:=(pdo_small 0 0 (atX n c r+outW n c r) (atY n c r+outH n c r) (by omega) (by omega) (by omega) (by omega)).2.2.1
   have p1:=(pdo_small (blkW n c) (blkH n r) (atX n c r+outW n c r) (atY n c r+outH n c r) (by omega) (by omega) (by omega) (by omega)).2.2.1
   exact ⟨_,_,_,_,p0,p1,by omega,by omega⟩
  ·rw [h20] at ow oh ⊢
   rw [if_pos (by omega)] at ow oh
   rw [if_neg (by omega),if_pos (by omega)]
   have p0:=(pdo_small 0 0 (atX n c r) (atY n c r+outH n c r) (by omega) (by omega) (by omega) (by omega)).2.2.2
   have p1:=(pdo_small (blkW n c) (blkH n r) (atX n c r) (atY n c r+outH n c r) (by omega) (by omega) (by omega) (by omega)).2.2.2
   exact ⟨_,_,_,_,p0,p1,by omega,by omega⟩
 obtain ⟨x0,y0,x1,y1,m0,m1,mx1,my1⟩:=main
 refine ⟨atX n c r,atY n c r,outW n c r,outH n c r,?_,by omega,by omega,by omega,by omega,by omega,by omega,by omega,by omega,fun b=>⟨x0,y0,x1,y1,?_,mx1,my1⟩⟩
 ·unfold blkOf boxOf
  rw [z1,z2,m0,m1]
  simp only [Prod.mk.injEq]
  omega
 ·rw [z1,z2,m0,m1]
  exact ⟨rfl,rfl⟩
theorem flip_small {n:Nat→Int} (h:firstJ n<0) (x y:Int) (hx:-10000000≤x∧x≤10000000) (hy:-10000000≤y∧y≤10000000) :
  (n 11=3→pdo (flipS n).1 (flipS n).2.1 (flipS n).2.2 x y=(n 12-x,y))∧(n 11=4→pdo (flipS n).1 (flipS n).2.1 (flipS n).2.2 x y=(x,n 13-y)):=by
 obtain ⟨-,h11,h12,h13,-⟩:=area_nums h
 constructor
 ·intro e
  have ef:flipS n=(4,n 12,0):=by
   unfold flipS
   rw [e]
   rfl
  rw [ef]
  refine Prod.ext_iff.2 ⟨?_,?_⟩
  ·show w64 (w64 (-x)+n 12)=n 12-x
   rw [w64_addL,tiny64 (by omega)]
   omega
  ·show w64 (y+0)=y
   rw [tiny64 (by omega)]
   omega
 ·intro e
  have ef:flipS n=(6,0,n 13):=by
   unfold flipS
   rw [e]
   rfl
  rw [ef]
  refine Prod.ext_iff.2 ⟨?_,?_⟩
  ·show w64 (x+0)=x
   rw [tiny64 (by omega)]
   omega
  ·show w64 (w64 (-y)+n 13)=n 13-y
   rw [w64_addL,tiny64 (by omega)]
   omega
theorem blk_two {n:Nat→Int} {c r:Int} (h:mayA n c r=true) (hfit:fitsA n c r=true) (h3:3≤n 11) :
  emp4 (max (blkOf n c r (atA n c r)).1 (blkOf n c r (backA n c r)).1) (max (blkOf n c r (atA n c r)).2.1 (blkOf n c r (backA n c r)).2.1) (min (blkOf n c r (atA n c r)).2.2.1 (blkOf n c r (backA n c r)).2.2.1) (min (blkOf n c r (atA n c r)).2.2.2 (blkOf n c r (backA n c r)).2.2.2)=true
  ∧ withinR (blkOf n c r (backA n c r)).1 (blkOf n c r (backA n c r)).2.1 (blkOf n c r (backA n c r)).2.2.1 (blkOf n c r (backA n c r)).2.2.2 (areaS n).1 (areaS n).2.1 (areaS n).2.2.1 (areaS n).2.2.2=true:=by
 obtain ⟨X,Y,w,v,e,hw,hv,r0,r2,r1,r3,-,-,hb⟩:=blk_front h hfit
 obtain ⟨hf,-,-⟩:=may_parts h
 obtain ⟨-,h11,h12,h13,h14,h15,h16,h20⟩:=area_nums hf
 obtain ⟨b1,b2⟩:=blk_bounds h
 obtain ⟨g1,g2,g3,g4,g5,g6,g7,g8,g9,gA,k3,k4⟩:=region_small hf
 obtain ⟨x0,y0,x1,y1,⟨e0,e1⟩,mx,my⟩:=hb (flipS n)
 have z1:w64 (0+blkW n c)=blkW n c:=by rw [Int.zero_add];exact tiny64 (by omega)
 have z2:w64 (0+blkH n r)=blkH n r:=by rw [Int.zero_add];exact tiny64 (by omega)
 have t0:pdo (backA n c r).1 (backA n c r).2.1 (backA n c r).2.2 0 0=pdo (flipS n).1 (flipS n).2.1 (flipS n).2.2 x0 y0:=by
  rw [←e0]
  exact pdo_then _ _ _ _ _ _ 0 0 (by omega) (by omega) (by omega) (by omega)
 have t1:pdo (backA n c r).1 (backA n c r).2.1 (backA n c r).2.2 (w64 (0+blkW n c)) (w64 (0+blkH n r))=pdo (flipS n).1 (flipS n).2.1 (flipS n).2.2 x1 y1:=by
  rw [←e1]
  exact pdo_then _ _ _ _ _ _ _ _ (by rw [z1];omega) (by rw [z1];omega) (by rw [z2];omega) (by rw [z2];omega)
 have hx0:-10000000≤x0∧x0≤10000000:=by omega
 have hx1:-10000000≤x1∧x1≤10000000:=by omega
 have hy0:-10000000≤y0∧y0≤10000000:=by omega
 have hy1:-10000000≤y1∧y1≤10000000:=by omega
 obtain ⟨s3,s4⟩:=flip_small hf x0 y0 hx0 hy0
 obtain ⟨u3,u4⟩:=flip_small hf x1 y1 hx1 hy1
 obtain h3 | h4:n 11=3∨n 11=4:=by omega
 ·have eb:blkOf n c r (backA n c r)=(n 12-(X+w),Y,n 12-X,Y+v):=by
   unfold blkOf boxOf
   rw [t0,t1,s3 h3,u3 h3]
   simp only [Prod.mk.injEq]
   omega
  have:=g8 h3
  have:=k3 h3
  rw [e,eb,gA]
  unfold emp4 withinR
  simp only [Bool.or_eq_true,Bool.and_eq_true,decide_eq_true_eq]
  omega
 ·have eb:blkOf n c r (backA n c r)=(X,n 13-(Y+v),X+w,n 13-Y):=by
   unfold blkOf boxOf
   rw [t0,t1,s4 h4,u4 h4]
   simp only [Prod.mk.injEq]
   omega
  have:=g9 h4
  have:=k4 h4
  rw [e,eb,gA]
  unfold emp4 withinR
  simp only [Bool.or_eq_true,Bool.and_eq_true,decide_eq_true_eq]
  omega
end Go.Proofs.Ytabinmabggnhbaa
