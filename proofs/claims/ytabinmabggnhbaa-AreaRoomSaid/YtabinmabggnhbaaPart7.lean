/- Part 7 of the texts that the proofs of this seat share: AreaCode, AreaAts, RcRows, CallOrder. -/
import Derived.Test.YtabinmabggnhbaaPart6
import Derived.Test.YtabinmabggnhbaaPart5
import Derived.Test.YtabinmabggnhbaaPart1
import Derived.Test.YtabinmabggnhbaaPart2
import Derived.Deep.AppendLies
import Derived.Deep.RegionHeld3
import Derived.BigQuiet
set_option linter.unusedSimpArgs false
set_option linter.unusedVariables false
namespace Go.Proofs.Ytabinmabggnhbaa
open Go.RowKit
theorem arHalf_any (n:Int) (w:World) (h:I64 n):Calls Try.prog 35 #[.int .i64 n] w fun e w'=>e=.returned (.int .i64 (n / 2))∧Below w.heap.size w w':=by
 have K:=floor_any n 2 w h.1 h.2 (by decide) (by decide)
 rw [md_half n h] at K
 have HK:=Lib.hid K
 obtain ⟨q,hq⟩:∃ q,n / 2=q:=⟨_,rfl⟩
 rw [hq] at HK ⊢
 clear K hq h
 go_enter Try.func35,Try.ntmps35
 go_wp2_with fail
 refine HK.out.mono ?_
 rintro e w1 ⟨rfl,rfl⟩
 go_wp2
 go_ret
 exact ⟨rfl,Below.refl _ _⟩
theorem arCopies_core (b:Int) (u:Bool) (w:World) (hu:(b==4)=u):Calls Try.prog 54 #[.int .i64 b] w fun e w'=>e=.returned (.int .i64 (if u=true then 2 else 1))∧Below w.heap.size w w':=by
 cases u
 ·go_enter Try.func54,Try.ntmps54
  go_wp2
  go_ret
  exact ⟨rfl,Below.refl _ _⟩
 ·go_enter Try.func54,Try.ntmps54
  go_wp2
  go_ret
  exact ⟨rfl,Below.refl _ _⟩
theorem arTurned_any (cs:List Value) (q:Int) (w:World) (hL:cs.length=33) (c25:cs[25]?=some (.int .i64 q)):Calls Try.prog 28 #[.agg cs.toArray] w fun e w'=>e=.returned (.agg #[.int .i64 q,.int .i64 0,.int .i64 0])∧Below w.heap.size w w':=by
 obtain ⟨X1,R1,B1⟩:=sty_boxes w hL 35 [.int .i64 0,.int .i64 0,.int .i64 0]
 have HX:=Lib.hid (X1.cell 25 c25);have HR:=Lib.hid R1;have HB:=Lib.hid B1
 clear X1 R1 B1 c25 hL
 generalize cs.toArray=ca at *
 go_enter Try.func28,Try.ntmps28
 go_upto_region 1 with fail
 obtain ⟨w2,hw2⟩:∃ w2,(w.alloc (.cells ca 29)).alloc (.cells #[.int .i64 0,.int .i64 0,.int .i64 0] 35)=w2:=⟨_,rfl⟩
 have hx:=HX.out;have hr:=HR.out;have hb:=HB.out
 simp only [List.toArray] at hx hr hb
 rw [hw2] at hx hr hb ⊢
 clear hw2 HX HR HB
 have r0:=hr.cell 0 rfl;have r1:=hr.cell 1 rfl;have r2:=hr.cell 2 rfl;have rf:=hr.free
 clear hr
 go_wp2
 refine bodyPost_ret (v:=.agg #[.int .i64 q,.int .i64 0,.int .i64 0]) (by simp [results,Try.results28,go_sem,r0,r1,r2]) rfl ⟨rfl,?_⟩
 exact up_set (up_set (up_set hb (by simp only;omega) _) (by simp only;omega) _) (by simp only;omega) _
set_option maxRecDepth 100000 in
theorem arMay_core (cs:List Value) (c r f p:Int) (sa:Option Addr) (sn sc:Nat) (u v:Bool) (w:World) (hL:cs.length=33) (hu:(f==-1)=u) (hv:decide (0<p)=v)
  (KF:∀ w1,Calls Try.prog 50 #[.agg cs.toArray] w1 fun e w'=>e=.returned (.int .i64 f)∧Below w1.heap.size w1 w')
  (KP:∀ w1,Calls Try.prog 51 #[.agg #[.int .i64 c,.int .i64 r,.slice sa sn sc]] w1 fun e w'=>e=.returned (.int .i64 p)∧Below w1.heap.size w1 w') :
  Calls Try.prog 25 #[.agg cs.toArray,.agg #[.int .i64 c,.int .i64 r,.slice sa sn sc]] w fun e w'=>e=.returned (.bool (u&&v))∧Below w.heap.size w w':=by
 have F0:=Lib.hid (JFr.new w hL c r (.slice sa sn sc))
 have HL:=Lib.hid hL;have HF:=Lib.hid KF;have HP:=Lib.hid KP
 clear hL KF KP
 go_enter Try.func25,Try.ntmps25
 go_wp2_with (refine wpList_load_job rfl _ rfl w.heap.size rfl cs F0.out.x HL.out ?_;simp only [Act.put,List.setIfInBounds_toArray,List.set_cons_succ,List.set_cons_zero])
 refine (HF.out _).mono ?_
 rintro e w1 ⟨rfl,hb⟩
 have F1:=F0.out.up HL.out hb
 have B1:=Lib.hid F1.b
 have s0:=F1.s.cell 0 rfl;have s1:=F1.s.cell 1 rfl;have s2:=F1.s.cell 2 rfl
 clear hb F0 F1
 cases u
 ·go_wp2
  go_ret
  exact ⟨rfl,B1.out⟩
 ·go_wp2_with fail
  refine (HP.out _).mono ?_
  rintro e w2 ⟨rfl,hb⟩
  have B2:=Lib.hid (up_trans B1.out hb)
  clear hb s0 s1 s2
  cases v
  ·go_wp2
   go_ret
   exact ⟨rfl,B2.out⟩
  ·go_wp2
   go_ret
   exact ⟨rfl,B2.out⟩
theorem arMay_any (cs:List Value) (n:Nat→Int) (c r:Int) (sa:Option Addr) (sn sc:Nat) (w:World) (h:NumC cs n) (hL:cs.length=33) :
  Calls Try.prog 25 #[.agg cs.toArray,.agg #[.int .i64 c,.int .i64 r,.slice sa sn sc]] w fun e w'=>e=.returned (.bool (mayA n c r))∧Below w.heap.size w w' :=
 arMay_core cs c r (firstJ n) (panM c r) sa sn sc _ _ w hL (first_neg n) rfl (fun w1=>bFirst_any cs n w1 hL h) (fun w1=>schPanels_any c r sa sn sc w1)
set_option maxRecDepth 100000 in
set_option maxHeartbeats 1000000 in
theorem arOwn_core (cs:List Value) (c r b k W H X Y:Int) (sa:Option Addr) (sn sc:Nat) (w:World) (hL:cs.length=33) (c11:cs[11]?=some (.int .i64 b))
  (KC:∀ w1,Calls Try.prog 54 #[.int .i64 b] w1 fun e w'=>e=.returned (.int .i64 k)∧Below w1.heap.size w1 w')
  (KB:∀ w1,Below w.heap.size w w1→Calls Try.prog 53 #[.agg cs.toArray,.agg #[.int .i64 c,.int .i64 r,.slice sa sn sc],.int .i64 k] w1 fun e w'=>e=.returned (.tuple #[.int .i64 W,.int .i64 H])∧Below w1.heap.size w1 w')
  (KO:∀ w1,Calls Try.prog 55 #[.int .i64 0,.int .i64 0,.int .i64 W,.int .i64 H] w1 fun e w'=>e=.returned (.agg #[.int .i64 0,.int .i64 0,.int .i64 X,.int .i64 Y])∧Below w1.heap.size w1 w') :
  Calls Try.prog 29 #[.agg cs.toArray,.agg #[.int .i64 c,.int .i64 r,.slice sa sn sc]] w fun e w'=>e=.returned (.agg #[.int .i64 0,.int .i64 0,.int .i64 X,.int .i64 Y])∧Below w.heap.size w w':=by
 have F0:=JFr.new w hL c r (.slice sa sn sc)
 have U0:=up_alloc (Below.refl _ ((w.alloc (.cells cs.toArray 29)).alloc (.cells #[.int .i64 c,.int .i64 r,.slice sa sn sc] 26))) (.cells #[.int .i64 0,.int .i64 0,.int .i64 0,.int .i64 0] 40)
 have R:=Bx.new ((w.alloc (.cells cs.toArray 29)).alloc (.cells #[.int .i64 c,.int .i64 r,.slice sa sn sc] 26)) 40 [.int .i64 0,.int .i64 0,.int .i64 0,.int .i64 0]
 simp only [World.size_alloc] at R
 have G0:=Lib.hid (F0.up hL U0)
 have HR0:=Lib.hid R
 have HL:=Lib.hid hL
 clear F0 U0 R
 have HC:=Lib.hid KC;have HB:=Lib.hid KB;have HO:=Lib.hid KO;have H11:=Lib.hid c11
 clear hL KC KB KO c11
 go_enter Try.func29,Try.ntmps29
 go_wp2_with fail
 have G1:=G0.out;have R:=HR0.out
 obtain ⟨w1,hw1⟩:∃ w1,((w.alloc (.cells cs.toArray 29)).alloc (.cells #[.int .i64 c,.int .i64 r,.slice sa sn sc] 26)).alloc (.cells #[.int .i64 0,.int .i64 0,.int .i64 0,.int .i64 0] 40)=w1:=⟨_,rfl⟩
 rw [hw1] at G1 R ⊢
 have s0:=fun x:Later w1=>x.cell (G1.s.cell 0 rfl);have s1:=fun x:Later w1=>x.cell (G1.s.cell 1 rfl);have s2:=fun x:Later w1=>x.cell (G1.s.cell 2 rfl);have b11:=fun x:Later w1=>x.cell (G1.x.cell 11 H11.out)
 have HRG:=Lib.hid (later_range G1.x (by rw [HL.out];decide))
 have HBW:=Lib.hid G1.b
 clear hw1 G1 G0 HR0
 refine later_start (w:=w1) ?_
 intro y
 refine wp_region_later (by kernel_rfl) (by kernel_rfl) ?_
 repeat (first
  | (go_big_quiet_want;refine quiet_load_job _ rfl w.heap.size rfl cs HL.out HRG.out ?_;simp only [Act.put,List.setIfInBounds_toArray,List.set_cons_succ,List.set_cons_zero];go_big_quiet_on)
  | go_big_quiet_step (first
   | (go_at_call 54;with_reducible exact Later.call (HC.out _))
   | (go_at_call 53;with_reducible exact Later.call (HB.out _ (up_trans HBW.out (Later.up _))))))
 refine wpQuiet_nil ?_
 rintro _ ⟨y2,rfl⟩
 have R2:=Lib.hid (R.up y2.up)
 have B2:=Lib.hid (up_trans HBW.out y2.up)
 clear R s0 s1 s2 b11 HRG
 generalize y2.now=w2 at *
 go_wp2_with fail
 refine (HO.out _).mono ?_
 rintro e w3 ⟨rfl,hb⟩
 have R3:=R2.out.up hb
 have B3:=Lib.hid (up_trans B2.out hb)
 have r0:=R3.cell 0 rfl;have r1:=R3.cell 1 rfl;have r2:=R3.cell 2 rfl;have r3:=R3.cell 3 rfl;have rf:=R3.free
 clear hb R2 R3 B2
 go_wp2
 refine bodyPost_ret (v:=.agg #[.int .i64 0,.int .i64 0,.int .i64 X,.int .i64 Y]) (by simp [results,Try.results29,go_sem,r0,r1,r2,r3]) rfl ⟨rfl,?_⟩
 exact up_set (up_set (up_set (up_set B3.out (by simp only;omega) _) (by simp only;omega) _) (by simp only;omega) _) (by simp only;omega) _
theorem arOwn_any (cs:List Value) (j:Jb) (c r:Int) (sa:Option Addr) (sn sc:Nat) (w:World) (hj:JobA w cs j) (hc:I64 c) (hr:I64 r) :
  Calls Try.prog 29 #[.agg cs.toArray,.agg #[.int .i64 c,.int .i64 r,.slice sa sn sc]] w fun e w'=>e=.returned (.agg #[.int .i64 0,.int .i64 0,.int .i64 (w64 (0+blkW j.n c)),.int .i64 (w64 (0+blkH j.n r))])∧Below w.heap.size w w':=by
 refine arOwn_core cs c r (j.n 10) (copA j.n) (blkW j.n c) (blkH j.n r) _ _ sa sn sc w hj.length (hj.numC 10 (by decide)) (fun w1=>?_) (fun w1 hb=>?_) (fun w1=>boxOf_any 0 0 _ _ w1)
 ·have K:=arCopies_core (j.n 10) _ w1 rfl
  simp only [beq_iff_eq] at K
  exact K
 ·have K:=panBlock cs j c r (copA j.n) sa sn sc w1 (hj.up hb) hc hr (by unfold copA I64;split<;>omega)
  rw [←w64_mulL (sizH j.n*r)] at K
  exact K
set_option maxRecDepth 100000 in
set_option maxHeartbeats 1000000 in
theorem arOuter_no (cs:List Value) (c r:Int) (sa:Option Addr) (sn sc:Nat) (w:World) (hL:cs.length=33)
  (KM:∀ w1,Calls Try.prog 25 #[.agg cs.toArray,.agg #[.int .i64 c,.int .i64 r,.slice sa sn sc]] w1 fun e w'=>e=.returned (.bool false)∧Below w1.heap.size w1 w') :
  Calls Try.prog 7 #[.agg cs.toArray,.agg #[.int .i64 c,.int .i64 r,.slice sa sn sc]] w fun e w'=>e=.returned (.tuple #[.int .i64 0,.int .i64 0])∧Below w.heap.size w w':=by
 have G0:=Lib.hid (JFr.new w hL c r (.slice sa sn sc))
 have s0:=G0.out.s.cell 0 rfl;have s1:=G0.out.s.cell 1 rfl;have s2:=G0.out.s.cell 2 rfl
 have HL:=Lib.hid hL;have HM:=Lib.hid KM
 clear hL KM
 go_enter Try.func7,Try.ntmps7
 go_wp2_with (refine wpList_load_job rfl _ rfl w.heap.size rfl cs G0.out.x HL.out ?_;simp only [Act.put,List.setIfInBounds_toArray,List.set_cons_succ,List.set_cons_zero])
 refine (HM.out _).mono ?_
 rintro e w1 ⟨rfl,hb⟩
 have B1:=Lib.hid (up_trans G0.out.b hb)
 clear hb G0 s0 s1 s2
 go_wp2
 go_ret2
 exact ⟨rfl,B1.out⟩
set_option maxRecDepth 100000 in
set_option maxHeartbeats 1000000 in
theorem arOuter_yes (cs:List Value) (c r q X Y l0 l1 l2 l3 o0 o1:Int) (sa:Option Addr) (sn sc:Nat) (w:World) (hL:cs.length=33)
  (KM:∀ w1,Calls Try.prog 25 #[.agg cs.toArray,.agg #[.int .i64 c,.int .i64 r,.slice sa sn sc]] w1 fun e w'=>e=.returned (.bool true)∧Below w1.heap.size w1 w')
  (KT:∀ w1,Calls Try.prog 28 #[.agg cs.toArray] w1 fun e w'=>e=.returned (.agg #[.int .i64 q,.int .i64 0,.int .i64 0])∧Below w1.heap.size w1 w')
  (KW:∀ w1,Below w.heap.size w w1→Calls Try.prog 29 #[.agg cs.toArray,.agg #[.int .i64 c,.int .i64 r,.slice sa sn sc]] w1 fun e w'=>e=.returned (.agg #[.int .i64 0,.int .i64 0,.int .i64 X,.int .i64 Y])∧Below w1.heap.size w1 w')
  (KX:∀ w1,Calls Try.prog 27 #[.agg #[.int .i64 q,.int .i64 0,.int .i64 0],.agg #[.int .i64 0,.int .i64 0,.int .i64 X,.int .i64 Y]] w1 fun e w'=>e=.returned (.agg #[.int .i64 l0,.int .i64 l1,.int .i64 l2,.int .i64 l3])∧Below w1.heap.size w1 w')
  (KS:∀ w1,Calls Try.prog 26 #[.agg #[.int .i64 l0,.int .i64 l1,.int .i64 l2,.int .i64 l3]] w1 fun e w'=>e=.returned (.tuple #[.int .i64 o0,.int .i64 o1])∧Below w1.heap.size w1 w') :
  Calls Try.prog 7 #[.agg cs.toArray,.agg #[.int .i64 c,.int .i64 r,.slice sa sn sc]] w fun e w'=>e=.returned (.tuple #[.int .i64 o0,.int .i64 o1])∧Below w.heap.size w w':=by
 have G0:=Lib.hid (JFr.new w hL c r (.slice sa sn sc))
 have s0:=G0.out.s.cell 0 rfl;have s1:=G0.out.s.cell 1 rfl;have s2:=G0.out.s.cell 2 rfl
 have HL:=Lib.hid hL;have HM:=Lib.hid KM;have HT:=Lib.hid KT;have HW:=Lib.hid KW;have HX:=Lib.hid KX;have HS:=Lib.hid KS
 clear hL KM KT KW KX KS
 go_enter Try.func7,Try.ntmps7
 go_wp2_with (refine wpList_load_job rfl _ rfl w.heap.size rfl cs G0.out.x HL.out ?_;simp only [Act.put,List.setIfInBounds_toArray,List.set_cons_succ,List.set_cons_zero])
 refine (HM.out _).mono ?_
 rintro e w1 ⟨rfl,hb⟩
 have G1:=Lib.hid (G0.out.up HL.out hb)
 clear hb G0 s0 s1 s2
 go_wp2_with fail
 have s0:=fun x:Later w1=>x.cell (G1.out.s.cell 0 rfl);have s1:=fun x:Later w1=>x.cell (G1.out.s.cell 1 rfl);have s2:=fun x:Later w1=>x.cell (G1.out.s.cell 2 rfl)
 have HRG:=Lib.hid (later_range G1.out.x (by rw [HL.out];decide))
 have HBW:=Lib.hid G1.out.b
 clear G1
 refine later_start (w:=w1) ?_
 intro y
 refine wp_region_later (by kernel_rfl) (by kernel_rfl) ?_
 repeat (first
  | (go_big_quiet_want;refine quiet_load_job _ rfl w.heap.size rfl cs HL.out HRG.out ?_;simp only [Act.put,List.setIfInBounds_toArray,List.set_cons_succ,List.set_cons_zero];go_big_quiet_on)
  | go_big_quiet_step (first
   | (go_at_call 28;with_reducible exact Later.call (HT.out _))
   | (go_at_call 29;with_reducible exact Later.call (HW.out _ (up_trans HBW.out (Later.up _))))
   | (go_at_call 27;with_reducible exact Later.call (HX.out _))
   | (go_at_call 26;with_reducible exact Later.call (HS.out _))))
 refine wpQuiet_nil ?_
 rintro _ ⟨y2,rfl⟩
 have B2:=Lib.hid (up_trans HBW.out y2.up)
 clear s0 s1 s2 HRG
 go_wp2
 go_ret2
 exact ⟨rfl,B2.out⟩
theorem own_i64 (n:Nat→Int) (c r:Int):(I64 0)∧I64 (w64 (0+blkW n c))∧I64 (w64 (0+blkH n r)):=⟨by unfold I64;omega,w64_in _,w64_in _⟩
theorem arLie_any (n:Nat→Int) (a:Int×Int×Int) (c r:Int) (w:World) :
  Calls Try.prog 27 #[.agg #[.int .i64 a.1,.int .i64 a.2.1,.int .i64 a.2.2],.agg #[.int .i64 0,.int .i64 0,.int .i64 (w64 (0+blkW n c)),.int .i64 (w64 (0+blkH n r))]] w fun e w'=>e=.returned (rcV (blkOf n c r a))∧Below w.heap.size w w' :=
 have I:=own_i64 n c r
 pbox_any a.1 a.2.1 a.2.2 0 0 _ _ w (i64_wfA I.1) (i64_wfA I.1) (i64_wfA I.2.1) (i64_wfA I.2.2)
theorem arOuter:ArOuter:=fun cs j c r sa sn sc w hj hn hc hr=>by
 have KM:=fun w1=>arMay_any cs j.n c r sa sn sc w1 hj.numC hj.length
 unfold outO2
 cases hm:mayA j.n c r
 ·rw [hm] at KM
  exact arOuter_no cs c r sa sn sc w hj.length KM
 ·rw [hm] at KM
  obtain ⟨e0,e1,-⟩:=lie_facts hm
  have KS:=fun w1=>boxSize_any (lieA j.n c r).1 (lieA j.n c r).2.1 (lieA j.n c r).2.2.1 (lieA j.n c r).2.2.2 w1
  unfold dif64 at KS
  rw [w64_def,w64_def,e0,e1] at KS
  exact arOuter_yes cs c r (j.n 20) _ _ _ _ _ _ _ _ sa sn sc w hj.length KM (fun w1=>arTurned_any cs (j.n 20) w1 hj.length (hj.numC 20 (by decide))) (fun w1 hb=>arOwn_any cs j c r sa sn sc w1 (hj.up hb) hc hr) (fun w1=>arLie_any j.n (j.n 20,0,0) c r w1) KS
set_option maxRecDepth 100000 in
set_option maxHeartbeats 1000000 in
theorem arLeft_core (cs:List Value) (c r R0 R1 R2 R3 x y a b d g:Int) (sa:Option Addr) (sn sc:Nat) (w:World) (hL:cs.length=33) (e1:IntKind.i64.wrap (x-a)=d) (e2:IntKind.i64.wrap (y-b)=g)
  (KR:∀ w1,Below w.heap.size w w1→Calls Try.prog 33 #[.agg cs.toArray] w1 fun e w'=>e=.returned (.agg #[.int .i64 R0,.int .i64 R1,.int .i64 R2,.int .i64 R3])∧Below w1.heap.size w1 w')
  (KS:∀ w1,Calls Try.prog 26 #[.agg #[.int .i64 R0,.int .i64 R1,.int .i64 R2,.int .i64 R3]] w1 fun e w'=>e=.returned (.tuple #[.int .i64 x,.int .i64 y])∧Below w1.heap.size w1 w')
  (KO:∀ w1,Below w.heap.size w w1→Calls Try.prog 7 #[.agg cs.toArray,.agg #[.int .i64 c,.int .i64 r,.slice sa sn sc]] w1 fun e w'=>e=.returned (.tuple #[.int .i64 a,.int .i64 b])∧Below w1.heap.size w1 w') :
  Calls Try.prog 32 #[.agg cs.toArray,.agg #[.int .i64 c,.int .i64 r,.slice sa sn sc]] w fun e w'=>e=.returned (.tuple #[.int .i64 d,.int .i64 g])∧Below w.heap.size w w':=by
 have G0:=Lib.hid (JFr.new w hL c r (.slice sa sn sc))
 have HL:=Lib.hid hL;have HR:=Lib.hid KR;have HS:=Lib.hid KS;have HO:=Lib.hid KO
 clear hL KR KS KO
 go_enter Try.func32,Try.ntmps32
 go_wp2_with (refine wpList_load_job rfl _ rfl w.heap.size rfl cs G0.out.x HL.out ?_;simp only [Act.put,List.setIfInBounds_toArray,List.set_cons_succ,List.set_cons_zero])
 refine (HR.out _ G0.out.b).mono ?_
 rintro o w1 ⟨rfl,hb⟩
 have G1:=Lib.hid (G0.out.up HL.out hb)
 clear hb G0
 go_wp2_with fail
 refine (HS.out _).mono ?_
 rintro o w2 ⟨rfl,hb⟩
 have G2:=Lib.hid (G1.out.up HL.out hb)
 have s0:=G2.out.s.cell 0 rfl;have s1:=G2.out.s.cell 1 rfl;have s2:=G2.out.s.cell 2 rfl
 clear hb G1
 go_wp2_with (refine wpList_load_job rfl _ rfl w.heap.size rfl cs G2.out.x HL.out ?_;simp only [Act.put,List.setIfInBounds_toArray,List.set_cons_succ,List.set_cons_zero])
 refine (HO.out _ G2.out.b).mono ?_
 rintro o w3 ⟨rfl,hb⟩
 have B3:=Lib.hid (up_trans G2.out.b hb)
 clear hb G2 s0 s1 s2
 go_wp2
 go_ret2
 exact ⟨rfl,B3.out⟩
theorem arLeft_any (cs:List Value) (j:Jb) (c r:Int) (sa:Option Addr) (sn sc:Nat) (w:World) (hj:JobA w cs j) (hn:∀ i,I64 (j.n i)) (hc:I64 c) (hr:I64 r) :
  Calls Try.prog 32 #[.agg cs.toArray,.agg #[.int .i64 c,.int .i64 r,.slice sa sn sc]] w fun e w'=>e=.returned (.tuple #[.int .i64 (w64 (roomX j.n-(outO2 j.n c r).1)),.int .i64 (w64 (roomY j.n-(outO2 j.n c r).2))])∧Below w.heap.size w w' :=
 arLeft_core cs c r (regionS j.n).1 (regionS j.n).2.1 (regionS j.n).2.2.1 (regionS j.n).2.2.2 (roomX j.n) (roomY j.n) (outO2 j.n c r).1 (outO2 j.n c r).2 _ _ sa sn sc w hj.length rfl rfl
  (fun w1 hb=>styRegion cs j w1 (hj.up hb) hn) (fun w1=>boxSize_any _ _ _ _ w1) (fun w1 hb=>arOuter cs j c r sa sn sc w1 (hj.up hb) hn hc hr)
set_option maxRecDepth 100000 in
set_option maxHeartbeats 1000000 in
theorem arFits_core (cs:List Value) (c r x y:Int) (sa:Option Addr) (sn sc:Nat) (m u v:Bool) (w:World) (hL:cs.length=33) (hu:decide (0≤x)=u) (hv:decide (0≤y)=v)
  (KF:∀ w1,Below w.heap.size w w1→Calls Try.prog 32 #[.agg cs.toArray,.agg #[.int .i64 c,.int .i64 r,.slice sa sn sc]] w1 fun e w'=>e=.returned (.tuple #[.int .i64 x,.int .i64 y])∧Below w1.heap.size w1 w')
  (KM:∀ w1,Calls Try.prog 25 #[.agg cs.toArray,.agg #[.int .i64 c,.int .i64 r,.slice sa sn sc]] w1 fun e w'=>e=.returned (.bool m)∧Below w1.heap.size w1 w') :
  Calls Try.prog 9 #[.agg cs.toArray,.agg #[.int .i64 c,.int .i64 r,.slice sa sn sc]] w fun e w'=>e=.returned (.bool (m&&(u&&v)))∧Below w.heap.size w w':=by
 have G0:=Lib.hid (JFr.new w hL c r (.slice sa sn sc))
 have s0:=G0.out.s.cell 0 rfl;have s1:=G0.out.s.cell 1 rfl;have s2:=G0.out.s.cell 2 rfl
 have HL:=Lib.hid hL;have HF:=Lib.hid KF;have HM:=Lib.hid KM
 clear hL KF KM
 go_enter Try.func9,Try.ntmps9
 go_wp2_with (refine wpList_load_job rfl _ rfl w.heap.size rfl cs G0.out.x HL.out ?_;simp only [Act.put,List.setIfInBounds_toArray,List.set_cons_succ,List.set_cons_zero])
 refine (HF.out _ G0.out.b).mono ?_
 rintro e w1 ⟨rfl,hb⟩
 have G1:=Lib.hid (G0.out.up HL.out hb)
 clear hb G0 s0 s1 s2
 have s0:=G1.out.s.cell 0 rfl;have s1:=G1.out.s.cell 1 rfl;have s2:=G1.out.s.cell 2 rfl
 go_wp2_with (refine wpList_load_job rfl _ rfl w.heap.size rfl cs G1.out.x HL.out ?_;simp only [Act.put,List.setIfInBounds_toArray,List.set_cons_succ,List.set_cons_zero])
 refine (HM.out _).mono ?_
 rintro e w2 ⟨rfl,hb⟩
 have B2:=Lib.hid (up_trans G1.out.b hb)
 clear hb G1 s0 s1 s2
 cases m
 ·go_wp2
  go_ret
  exact ⟨rfl,B2.out⟩
 ·cases u
  ·go_wp2
   go_ret
   exact ⟨rfl,B2.out⟩
  ·cases v
   ·go_wp2
    go_ret
    exact ⟨rfl,B2.out⟩
   ·go_wp2
    go_ret
    exact ⟨rfl,B2.out⟩
theorem arFits:ArFits:=fun cs j c r sa sn sc w hj hn hc hr=>by
 have K:=arFits_core cs c r _ _ sa sn sc (mayA j.n c r) _ _ w hj.length rfl rfl (fun w1 hb=>arLeft_any cs j c r sa sn sc w1 (hj.up hb) hn hc hr) (fun w1=>arMay_any cs j.n c r sa sn sc w1 hj.numC hj.length)
 unfold fitsO
 cases hm:mayA j.n c r
 ·rw [hm] at K
  exact K
 ·unfold outO2 at K
  rw [hm] at K
  simp only [if_true] at K
  rw [fits_left hm] at K
  exact K
set_option maxRecDepth 100000 in
set_option maxHeartbeats 1000000 in
theorem arAt_no (cs:List Value) (c r:Int) (sa:Option Addr) (sn sc:Nat) (w:World) (hL:cs.length=33)
  (KM:∀ w1,Calls Try.prog 25 #[.agg cs.toArray,.agg #[.int .i64 c,.int .i64 r,.slice sa sn sc]] w1 fun e w'=>e=.returned (.bool false)∧Below w1.heap.size w1 w') :
  Calls Try.prog 10 #[.agg cs.toArray,.agg #[.int .i64 c,.int .i64 r,.slice sa sn sc]] w fun e w'=>e=.returned (.agg #[.int .i64 0,.int .i64 0,.int .i64 0])∧Below w.heap.size w w':=by
 have F0:=JFr.new w hL c r (.slice sa sn sc)
 have U0:=up_alloc (Below.refl _ ((w.alloc (.cells cs.toArray 29)).alloc (.cells #[.int .i64 c,.int .i64 r,.slice sa sn sc] 26))) (.cells #[.int .i64 0,.int .i64 0,.int .i64 0] 35)
 have R:=Bx.new ((w.alloc (.cells cs.toArray 29)).alloc (.cells #[.int .i64 c,.int .i64 r,.slice sa sn sc] 26)) 35 [.int .i64 0,.int .i64 0,.int .i64 0]
 simp only [World.size_alloc] at R
 have G0:=Lib.hid (F0.up hL U0)
 have HR0:=Lib.hid R
 have HL:=Lib.hid hL
 clear F0 U0 R
 have s0:=G0.out.s.cell 0 rfl;have s1:=G0.out.s.cell 1 rfl;have s2:=G0.out.s.cell 2 rfl
 have HM:=Lib.hid KM
 clear hL KM
 go_enter Try.func10,Try.ntmps10
 go_wp2_with (refine wpList_load_job rfl _ rfl w.heap.size rfl cs G0.out.x HL.out ?_;simp only [Act.put,List.setIfInBounds_toArray,List.set_cons_succ,List.set_cons_zero])
 refine (HM.out _).mono ?_
 rintro e w1 ⟨rfl,hb⟩
 have R1:=HR0.out.up hb
 have B1:=up_trans G0.out.b hb
 clear hb G0 HR0 s0 s1 s2
 have r0:=R1.cell 0 rfl;have r1:=R1.cell 1 rfl;have r2:=R1.cell 2 rfl;have rf:=R1.free
 clear R1
 go_wp2
 refine bodyPost_ret (v:=.agg #[.int .i64 0,.int .i64 0,.int .i64 0]) (by simp [results,Try.results10,go_sem,r0,r1,r2]) rfl ⟨rfl,?_⟩
 exact up_set (up_set (up_set (B1) (by simp only;omega) _) (by simp only;omega) _) (by simp only;omega) _
set_option maxRecDepth 100000 in
set_option maxHeartbeats 1000000 in
theorem arBack_no (cs:List Value) (c r:Int) (sa:Option Addr) (sn sc:Nat) (w:World) (hL:cs.length=33)
  (KM:∀ w1,Calls Try.prog 25 #[.agg cs.toArray,.agg #[.int .i64 c,.int .i64 r,.slice sa sn sc]] w1 fun e w'=>e=.returned (.bool false)∧Below w1.heap.size w1 w') :
  Calls Try.prog 11 #[.agg cs.toArray,.agg #[.int .i64 c,.int .i64 r,.slice sa sn sc]] w fun e w'=>e=.returned (.agg #[.int .i64 0,.int .i64 0,.int .i64 0])∧Below w.heap.size w w':=by
 have F0:=JFr.new w hL c r (.slice sa sn sc)
 have U0:=up_alloc (Below.refl _ ((w.alloc (.cells cs.toArray 29)).alloc (.cells #[.int .i64 c,.int .i64 r,.slice sa sn sc] 26))) (.cells #[.int .i64 0,.int .i64 0,.int .i64 0] 35)
 have R:=Bx.new ((w.alloc (.cells cs.toArray 29)).alloc (.cells #[.int .i64 c,.int .i64 r,.slice sa sn sc] 26)) 35 [.int .i64 0,.int .i64 0,.int .i64 0]
 simp only [World.size_alloc] at R
 have G0:=Lib.hid (F0.up hL U0)
 have HR0:=Lib.hid R
 have HL:=Lib.hid hL
 clear F0 U0 R
 have s0:=G0.out.s.cell 0 rfl;have s1:=G0.out.s.cell 1 rfl;have s2:=G0.out.s.cell 2 rfl
 have HM:=Lib.hid KM
 clear hL KM
 go_enter Try.func11,Try.ntmps11
 go_wp2_with (refine wpList_load_job rfl _ rfl w.heap.size rfl cs G0.out.x HL.out ?_;simp only [Act.put,List.setIfInBounds_toArray,List.set_cons_succ,List.set_cons_zero])
 refine (HM.out _).mono ?_
 rintro e w1 ⟨rfl,hb⟩
 have R1:=HR0.out.up hb
 have B1:=up_trans G0.out.b hb
 clear hb G0 HR0 s0 s1 s2
 have r0:=R1.cell 0 rfl;have r1:=R1.cell 1 rfl;have r2:=R1.cell 2 rfl;have rf:=R1.free
 clear R1
 go_wp2
 refine bodyPost_ret (v:=.agg #[.int .i64 0,.int .i64 0,.int .i64 0]) (by simp [results,Try.results11,go_sem,r0,r1,r2]) rfl ⟨rfl,?_⟩
 exact up_set (up_set (up_set (B1) (by simp only;omega) _) (by simp only;omega) _) (by simp only;omega) _
set_option maxRecDepth 100000 in
set_option maxHeartbeats 2000000 in
theorem arAt_yes (cs:List Value) (c r q R0 R1 R2 R3 x y h1 h2 X Y l0 l1 l2 l3 p0 p1 t0 t1 a0 a1 a2:Int) (sa:Option Addr) (sn sc:Nat) (w:World) (hL:cs.length=33)
  (e0:IntKind.i64.wrap (R0+h1)=p0) (e1:IntKind.i64.wrap (p0-l0)=t0) (e2:IntKind.i64.wrap (R1+h2)=p1) (e3:IntKind.i64.wrap (p1-l1)=t1)
  (KM:∀ w1,Calls Try.prog 25 #[.agg cs.toArray,.agg #[.int .i64 c,.int .i64 r,.slice sa sn sc]] w1 fun e w'=>e=.returned (.bool true)∧Below w1.heap.size w1 w')
  (KR:∀ w1,Below w.heap.size w w1→Calls Try.prog 33 #[.agg cs.toArray] w1 fun e w'=>e=.returned (.agg #[.int .i64 R0,.int .i64 R1,.int .i64 R2,.int .i64 R3])∧Below w1.heap.size w1 w')
  (KF:∀ w1,Below w.heap.size w w1→Calls Try.prog 32 #[.agg cs.toArray,.agg #[.int .i64 c,.int .i64 r,.slice sa sn sc]] w1 fun e w'=>e=.returned (.tuple #[.int .i64 x,.int .i64 y])∧Below w1.heap.size w1 w')
  (KT:∀ w1,Calls Try.prog 28 #[.agg cs.toArray] w1 fun e w'=>e=.returned (.agg #[.int .i64 q,.int .i64 0,.int .i64 0])∧Below w1.heap.size w1 w')
  (KW:∀ w1,Below w.heap.size w w1→Calls Try.prog 29 #[.agg cs.toArray,.agg #[.int .i64 c,.int .i64 r,.slice sa sn sc]] w1 fun e w'=>e=.returned (.agg #[.int .i64 0,.int .i64 0,.int .i64 X,.int .i64 Y])∧Below w1.heap.size w1 w')
  (KX:∀ w1,Calls Try.prog 27 #[.agg #[.int .i64 q,.int .i64 0,.int .i64 0],.agg #[.int .i64 0,.int .i64 0,.int .i64 X,.int .i64 Y]] w1 fun e w'=>e=.returned (.agg #[.int .i64 l0,.int .i64 l1,.int .i64 l2,.int .i64 l3])∧Below w1.heap.size w1 w')
  (K1:∀ w1,Calls Try.prog 35 #[.int .i64 x] w1 fun e w'=>e=.returned (.int .i64 h1)∧Below w1.heap.size w1 w')
  (K2:∀ w1,Calls Try.prog 35 #[.int .i64 y] w1 fun e w'=>e=.returned (.int .i64 h2)∧Below w1.heap.size w1 w')
  (KV:∀ w1,Calls Try.prog 34 #[.int .i64 t0,.int .i64 t1] w1 fun e w'=>e=.returned (.agg #[.int .i64 0,.int .i64 t0,.int .i64 t1])∧Below w1.heap.size w1 w')
  (KN:∀ w1,Calls Try.prog 36 #[.agg #[.int .i64 q,.int .i64 0,.int .i64 0],.agg #[.int .i64 0,.int .i64 t0,.int .i64 t1]] w1 fun e w'=>e=.returned (.agg #[.int .i64 a0,.int .i64 a1,.int .i64 a2])∧Below w1.heap.size w1 w') :
  Calls Try.prog 10 #[.agg cs.toArray,.agg #[.int .i64 c,.int .i64 r,.slice sa sn sc]] w fun e w'=>e=.returned (.agg #[.int .i64 a0,.int .i64 a1,.int .i64 a2])∧Below w.heap.size w w':=by
 have F0:=JFr.new w hL c r (.slice sa sn sc)
 have U0:=up_alloc (Below.refl _ ((w.alloc (.cells cs.toArray 29)).alloc (.cells #[.int .i64 c,.int .i64 r,.slice sa sn sc] 26))) (.cells #[.int .i64 0,.int .i64 0,.int .i64 0] 35)
 have R:=Bx.new ((w.alloc (.cells cs.toArray 29)).alloc (.cells #[.int .i64 c,.int .i64 r,.slice sa sn sc] 26)) 35 [.int .i64 0,.int .i64 0,.int .i64 0]
 simp only [World.size_alloc] at R
 have G0:=Lib.hid (F0.up hL U0)
 have HR0:=Lib.hid R
 have HL:=Lib.hid hL
 clear F0 U0 R
 have s0:=G0.out.s.cell 0 rfl;have s1:=G0.out.s.cell 1 rfl;have s2:=G0.out.s.cell 2 rfl
 have HM:=Lib.hid KM;have HRe:=Lib.hid KR;have HF:=Lib.hid KF;have HT:=Lib.hid KT;have HW:=Lib.hid KW;have HX:=Lib.hid KX;have H1:=Lib.hid K1;have H2:=Lib.hid K2;have HV:=Lib.hid KV;have HN:=Lib.hid KN
 have E0:=Lib.hid e0;have E1:=Lib.hid e1;have E2:=Lib.hid e2;have E3:=Lib.hid e3
 clear hL KM KR KF KT KW KX K1 K2 KV KN e0 e1 e2 e3
 go_enter Try.func10,Try.ntmps10
 go_wp2_with (refine wpList_load_job rfl _ rfl w.heap.size rfl cs G0.out.x HL.out ?_;simp only [Act.put,List.setIfInBounds_toArray,List.set_cons_succ,List.set_cons_zero])
 refine (HM.out _).mono ?_
 rintro e w1 ⟨rfl,hb⟩
 have G1:=Lib.hid (G0.out.up HL.out hb)
 have HR1:=Lib.hid (HR0.out.up hb)
 clear hb G0 HR0 s0 s1 s2
 go_wp2_with (refine wpList_load_job rfl _ rfl w.heap.size rfl cs G1.out.x HL.out ?_;simp only [Act.put,List.setIfInBounds_toArray,List.set_cons_succ,List.set_cons_zero])
 refine (HRe.out _ G1.out.b).mono ?_
 rintro e w2 ⟨rfl,hb⟩
 have U:=up_alloc (Below.refl _ w2) (.cells #[.int .i64 R0,.int .i64 R1,.int .i64 R2,.int .i64 R3] 40)
 have S2:=Lib.hid (Bx.new w2 40 [.int .i64 R0,.int .i64 R1,.int .i64 R2,.int .i64 R3])
 have G2:=Lib.hid ((G1.out.up HL.out hb).up HL.out U)
 have R2x:=Lib.hid ((HR1.out.up hb).up U)
 clear hb U G1 HR1
 have s0:=G2.out.s.cell 0 rfl;have s1:=G2.out.s.cell 1 rfl;have s2:=G2.out.s.cell 2 rfl
 go_wp2_with (refine wpList_load_job rfl _ rfl w.heap.size rfl cs G2.out.x HL.out ?_;simp only [Act.put,List.setIfInBounds_toArray,List.set_cons_succ,List.set_cons_zero])
 refine (HF.out _ G2.out.b).mono ?_
 rintro e w3 ⟨rfl,hb⟩
 have S3:=Lib.hid (S2.out.up hb)
 have G3:=Lib.hid (G2.out.up HL.out hb)
 have R3x:=Lib.hid (R2x.out.up hb)
 clear hb S2 G2 R2x s0 s1 s2
 go_wp2_with fail
 have gG:=G3.out;have gS:=S3.out;have gR:=R3x.out
 clear G3 S3 R3x
 refine wp_region_boxes' 7 50 [(6,8)] [40] (fun _=>[.int .i64 0,.int .i64 0,.int .i64 0,.int .i64 0]) (by kernel_rfl) (by kernel_rfl) rfl (fun ty hty o ρ w' ho=>by simp only [List.mem_singleton] at hty;subst hty;simp [execOp,ho,go_sem])
  ⟨_,fun v0 h0 K HKK=>by
   have F:=gG.up HL.out h0
   have s0:=fun x:Later v0=>x.cell (F.s.cell 0 rfl);have s1:=fun x:Later v0=>x.cell (F.s.cell 1 rfl);have s2:=fun x:Later v0=>x.cell (F.s.cell 2 rfl)
   have HRG:=Lib.hid (later_range F.x (by rw [HL.out];decide))
   have HBW:=Lib.hid F.b
   clear F
   simp only [List.take_succ_cons,List.take_zero,List.filter_cons,List.filter_nil,isAlloc,Bool.not_true,Bool.not_false,if_true,Bool.false_eq_true,if_false]
   repeat (first
    | (go_big_quiet_want;refine quiet_load_job _ rfl w.heap.size rfl cs HL.out HRG.out ?_;simp only [Act.put,List.setIfInBounds_toArray,List.set_cons_succ,List.set_cons_zero];go_big_quiet_on)
    | go_big_quiet_step (first
     | (go_at_call 28;with_reducible exact Later.call (HT.out _))
     | (go_at_call 29;with_reducible exact Later.call (HW.out _ (up_trans HBW.out (Later.up _))))
     | (go_at_call 27;with_reducible exact Later.call (HX.out _))))
   exact wpQuiet_nil (HKK.out _ rfl),?t5⟩
 case t5 =>
  intro gf wt ht hg hne
  obtain ⟨lg,Q0⟩:=hg (6,8) (by simp) _ _ rfl rfl
  simp only [puts,List.drop_succ_cons,List.drop_zero] at lg Q0 ⊢
  generalize gf 6=g6 at *
  clear hg hne
  refine wpList_store_mid rfl 40 _ _ rfl g6 0 #[.int .i64 l0,.int .i64 l1,.int .i64 l2,.int .i64 l3] rfl rfl Q0.present (by kernel_rfl) (by simp;exact ⟨rfl,rfl,rfl,rfl⟩) ?_
  have QQ:=Q0.sets (ws:=[.int .i64 l0,.int .i64 l1,.int .i64 l2,.int .i64 l3]) rfl
  have UU:=below_setCells lg [.int .i64 l0,.int .i64 l1,.int .i64 l2,.int .i64 l3] 0 _ ht
  simp only [Act.put]
  refine wpList_nil ?_
  obtain ⟨w5,hwn⟩:∃ wn,wt.setCells g6 0 [.int .i64 l0,.int .i64 l1,.int .i64 l2,.int .i64 l3]=wn:=⟨_,rfl⟩
  rw [hwn] at QQ UU
  rename_i hK
  refine hK _ _ ?_
  rw [show wt.setCells g6 0 (#[.int .i64 l0,.int .i64 l1,.int .i64 l2,.int .i64 l3]:Array Value).toList=w5 from hwn]
  clear hwn Q0 hK ht lg
  simp only [List.setIfInBounds_toArray,List.set_cons_zero,List.set_cons_succ]
  have gG:=gG.up HL.out UU
  have gS:=gS.up UU
  have gR:=gR.up UU
  have gL:=QQ
  have G5:=Lib.hid gG;have S5:=Lib.hid gS;have R5:=Lib.hid gR;have L5:=Lib.hid gL
  clear gG gS gR gL QQ UU
  go_wp2_with fail
  have gG:=G5.out;have gS:=S5.out;have gR:=R5.out;have gL:=L5.out
  clear G5 S5 R5 L5
  refine wp_region_boxes' 18 50 [(17,9)] [35] (fun _=>[.int .i64 0,.int .i64 0,.int .i64 0]) (by kernel_rfl) (by kernel_rfl) rfl (fun ty hty o ρ w' ho=>by simp only [List.mem_singleton] at hty;subst hty;simp [execOp,ho,go_sem])
   ⟨_,fun v0 h0 K HKK=>by
    have F:=gS.up h0;have F2:=gL.up h0
    have j0:=fun x:Later v0=>x.cell (F.cell 0 rfl);have j1:=fun x:Later v0=>x.cell (F.cell 1 rfl);have k0:=fun x:Later v0=>x.cell (F2.cell 0 rfl);have k1:=fun x:Later v0=>x.cell (F2.cell 1 rfl)
    have e0:=E0.out;have e1:=E1.out;have e2:=E2.out;have e3:=E3.out
    clear F F2
    simp only [List.take_succ_cons,List.take_zero,List.filter_cons,List.filter_nil,isAlloc,Bool.not_true,Bool.not_false,if_true,Bool.false_eq_true,if_false]
    repeat (first
     | go_big_quiet_step (first
      | (go_at_call 35;first | with_reducible exact Later.call (H1.out _) | with_reducible exact Later.call (H2.out _))
      | (go_at_call 34;with_reducible exact Later.call (HV.out _))))
    exact wpQuiet_nil (HKK.out _ rfl),?t7⟩
  case t7 =>
   intro gf wt ht hg hne
   obtain ⟨lg,Q0⟩:=hg (17,9) (by simp) _ _ rfl rfl
   simp only [puts,List.drop_succ_cons,List.drop_zero] at lg Q0 ⊢
   generalize gf 17=g17 at *
   clear hg hne
   refine wpList_store_mid rfl 35 _ _ rfl g17 0 #[.int .i64 0,.int .i64 t0,.int .i64 t1] rfl rfl Q0.present (by kernel_rfl) (by simp;exact ⟨rfl,rfl,rfl⟩) ?_
   have QQ:=Q0.sets (ws:=[.int .i64 0,.int .i64 t0,.int .i64 t1]) rfl
   have UU:=below_setCells lg [.int .i64 0,.int .i64 t0,.int .i64 t1] 0 _ ht
   simp only [Act.put]
   refine wpList_nil ?_
   obtain ⟨w7,hwn⟩:∃ wn,wt.setCells g17 0 [.int .i64 0,.int .i64 t0,.int .i64 t1]=wn:=⟨_,rfl⟩
   rw [hwn] at QQ UU
   rename_i hK
   refine hK _ _ ?_
   rw [show wt.setCells g17 0 (#[.int .i64 0,.int .i64 t0,.int .i64 t1]:Array Value).toList=w7 from hwn]
   clear hwn Q0 hK ht lg
   simp only [List.setIfInBounds_toArray,List.set_cons_zero,List.set_cons_succ]
   have gG:=gG.up HL.out UU
   have gR:=gR.up UU
   have gN:=QQ
   have G7:=Lib.hid gG;have R7:=Lib.hid gR;have N7:=Lib.hid gN
   clear gG gR gN QQ UU gS gL
   go_wp2_with fail
   have gG:=G7.out;have gR:=R7.out;have gN:=N7.out
   clear G7 R7 N7
   have n0:=fun x:Later w7=>x.cell (gN.cell 0 rfl);have n1:=fun x:Later w7=>x.cell (gN.cell 1 rfl);have n2:=fun x:Later w7=>x.cell (gN.cell 2 rfl)
   have HRG:=Lib.hid (later_range gG.x (by rw [HL.out];decide))
   have HBW:=Lib.hid gG.b
   refine later_start (w:=w7) ?_
   intro z
   refine wp_region_later_tail 4 (by kernel_rfl) (by kernel_rfl) ?_
   simp only [List.take_succ_cons,List.take_zero,List.drop_succ_cons,List.drop_zero]
   repeat (first
    | (go_big_quiet_want;refine quiet_load_job _ rfl w.heap.size rfl cs HL.out HRG.out ?_;simp only [Act.put,List.setIfInBounds_toArray,List.set_cons_succ,List.set_cons_zero];go_big_quiet_on)
    | go_big_quiet_step (first
     | (go_at_call 28;with_reducible exact Later.call (HT.out _))
     | (go_at_call 36;with_reducible exact Later.call (HN.out _))))
   refine wpQuiet_nil ?_
   rintro _ ⟨z2,rfl⟩
   have R8:=gR.up z2.up
   have B8:=up_trans HBW.out z2.up
   clear n0 n1 n2 HRG HBW gN gG gR
   generalize z2.now=w8 at *
   have r0:=R8.cell 0 rfl;have r1:=R8.cell 1 rfl;have r2:=R8.cell 2 rfl;have rf:=R8.free
   clear R8
   go_wp2
   refine bodyPost_ret (v:=.agg #[.int .i64 a0,.int .i64 a1,.int .i64 a2]) (by simp [results,Try.results10,go_sem,r0,r1,r2]) rfl ⟨rfl,?_⟩
   exact up_set (up_set (up_set (B8) (by simp only;omega) _) (by simp only;omega) _) (by simp only;omega) _
theorem arAt:ArAt:=fun cs j c r sa sn sc w hj hn hc hr=>by
 have KM:=fun w1=>arMay_any cs j.n c r sa sn sc w1 hj.numC hj.length
 unfold atO2
 cases hm:mayA j.n c r
 ·rw [hm] at KM
  exact arAt_no cs c r sa sn sc w hj.length KM
 ·rw [hm] at KM
  have eo:outO2 j.n c r=(outW j.n c r,outH j.n c r):=by unfold outO2;rw [hm];rfl
  have KF:=fun w1 (hb:Below w.heap.size w w1)=>arLeft_any cs j c r sa sn sc w1 (hj.up hb) hn hc hr
  rw [eo] at KF
  have KN:=fun w1=>pthen_any (j.n 20) 0 0 0 (goX j.n c r) (goY j.n c r) w1 (by decide) (by decide) (by decide) (by decide)
  have hw:=at_way hm
  rw [if_pos rfl,←hw]
  exact arAt_yes cs c r (j.n 20) (regionS j.n).1 (regionS j.n).2.1 (regionS j.n).2.2.1 (regionS j.n).2.2.2 _ _ _ _ _ _ (lieA j.n c r).1 (lieA j.n c r).2.1 (lieA j.n c r).2.2.1 (lieA j.n c r).2.2.2 _ _ (goX j.n c r) (goY j.n c r) _ _ _ sa sn sc w hj.length rfl rfl rfl rfl KM
   (fun w1 hb=>styRegion cs j w1 (hj.up hb) hn) KF (fun w1=>arTurned_any cs (j.n 20) w1 hj.length (hj.numC 20 (by decide))) (fun w1 hb=>arOwn_any cs j c r sa sn sc w1 (hj.up hb) hc hr) (fun w1=>arLie_any j.n (j.n 20,0,0) c r w1)
   (fun w1=>arHalf_any _ w1 (w64_in _)) (fun w1=>arHalf_any _ w1 (w64_in _)) (fun w1=>move_any _ _ w1) KN
set_option maxRecDepth 100000 in
set_option maxHeartbeats 1000000 in
theorem arBack_yes (cs:List Value) (c r A0 A1 A2 F0 F1 F2 a0 a1 a2:Int) (sa:Option Addr) (sn sc:Nat) (w:World) (hL:cs.length=33)
  (KM:∀ w1,Calls Try.prog 25 #[.agg cs.toArray,.agg #[.int .i64 c,.int .i64 r,.slice sa sn sc]] w1 fun e w'=>e=.returned (.bool true)∧Below w1.heap.size w1 w')
  (KA:∀ w1,Below w.heap.size w w1→Calls Try.prog 10 #[.agg cs.toArray,.agg #[.int .i64 c,.int .i64 r,.slice sa sn sc]] w1 fun e w'=>e=.returned (.agg #[.int .i64 A0,.int .i64 A1,.int .i64 A2])∧Below w1.heap.size w1 w')
  (KF:∀ w1,Below w.heap.size w w1→Calls Try.prog 37 #[.agg cs.toArray] w1 fun e w'=>e=.returned (.agg #[.int .i64 F0,.int .i64 F1,.int .i64 F2])∧Below w1.heap.size w1 w')
  (KN:∀ w1,Calls Try.prog 36 #[.agg #[.int .i64 A0,.int .i64 A1,.int .i64 A2],.agg #[.int .i64 F0,.int .i64 F1,.int .i64 F2]] w1 fun e w'=>e=.returned (.agg #[.int .i64 a0,.int .i64 a1,.int .i64 a2])∧Below w1.heap.size w1 w') :
  Calls Try.prog 11 #[.agg cs.toArray,.agg #[.int .i64 c,.int .i64 r,.slice sa sn sc]] w fun e w'=>e=.returned (.agg #[.int .i64 a0,.int .i64 a1,.int .i64 a2])∧Below w.heap.size w w':=by
 have F0:=JFr.new w hL c r (.slice sa sn sc)
 have U0:=up_alloc (Below.refl _ ((w.alloc (.cells cs.toArray 29)).alloc (.cells #[.int .i64 c,.int .i64 r,.slice sa sn sc] 26))) (.cells #[.int .i64 0,.int .i64 0,.int .i64 0] 35)
 have R:=Bx.new ((w.alloc (.cells cs.toArray 29)).alloc (.cells #[.int .i64 c,.int .i64 r,.slice sa sn sc] 26)) 35 [.int .i64 0,.int .i64 0,.int .i64 0]
 simp only [World.size_alloc] at R
 have G0:=Lib.hid (F0.up hL U0)
 have HR0:=Lib.hid R
 have HL:=Lib.hid hL
 clear F0 U0 R
 have s0:=G0.out.s.cell 0 rfl;have s1:=G0.out.s.cell 1 rfl;have s2:=G0.out.s.cell 2 rfl
 have HM:=Lib.hid KM;have HA:=Lib.hid KA;have HF:=Lib.hid KF;have HN:=Lib.hid KN
 clear hL KM KA KF KN
 go_enter Try.func11,Try.ntmps11
 go_wp2_with (refine wpList_load_job rfl _ rfl w.heap.size rfl cs G0.out.x HL.out ?_;simp only [Act.put,List.setIfInBounds_toArray,List.set_cons_succ,List.set_cons_zero])
 refine (HM.out _).mono ?_
 rintro e w1 ⟨rfl,hb⟩
 have G1:=Lib.hid (G0.out.up HL.out hb)
 have HR1:=Lib.hid (HR0.out.up hb)
 clear hb G0 HR0 s0 s1 s2
 go_wp2_with fail
 have s0:=fun x:Later w1=>x.cell (G1.out.s.cell 0 rfl);have s1:=fun x:Later w1=>x.cell (G1.out.s.cell 1 rfl);have s2:=fun x:Later w1=>x.cell (G1.out.s.cell 2 rfl)
 have HRG:=Lib.hid (later_range G1.out.x (by rw [HL.out];decide))
 have HBW:=Lib.hid G1.out.b
 refine later_start (w:=w1) ?_
 intro z
 refine wp_region_later_tail 6 (by kernel_rfl) (by kernel_rfl) ?_
 simp only [List.take_succ_cons,List.take_zero,List.drop_succ_cons,List.drop_zero]
 repeat (first
  | (go_big_quiet_want;refine quiet_load_job _ rfl w.heap.size rfl cs HL.out HRG.out ?_;simp only [Act.put,List.setIfInBounds_toArray,List.set_cons_succ,List.set_cons_zero];go_big_quiet_on)
  | go_big_quiet_step (first
   | (go_at_call 10;with_reducible exact Later.call (HA.out _ (up_trans HBW.out (Later.up _))))
   | (go_at_call 37;with_reducible exact Later.call (HF.out _ (up_trans HBW.out (Later.up _))))
   | (go_at_call 36;with_reducible exact Later.call (HN.out _))))
 refine wpQuiet_nil ?_
 rintro _ ⟨z2,rfl⟩
 have R8:=HR1.out.up z2.up
 have B8:=up_trans HBW.out z2.up
 clear s0 s1 s2 HRG HBW G1 HR1
 generalize z2.now=w8 at *
 have r0:=R8.cell 0 rfl;have r1:=R8.cell 1 rfl;have r2:=R8.cell 2 rfl;have rf:=R8.free
 clear R8
 go_wp2
 refine bodyPost_ret (v:=.agg #[.int .i64 a0,.int .i64 a1,.int .i64 a2]) (by simp [results,Try.results11,go_sem,r0,r1,r2]) rfl ⟨rfl,?_⟩
 exact up_set (up_set (up_set (B8) (by simp only;omega) _) (by simp only;omega) _) (by simp only;omega) _
theorem arBack:ArBack:=fun cs j c r sa sn sc w hj hn hc hr=>by
 have KM:=fun w1=>arMay_any cs j.n c r sa sn sc w1 hj.numC hj.length
 have KA:=fun w1 (hb:Below w.heap.size w w1)=>arAt cs j c r sa sn sc w1 (hj.up hb) hn hc hr
 unfold backO2
 unfold atO2 at KA
 cases hm:mayA j.n c r
 ·rw [hm] at KM
  exact arBack_no cs c r sa sn sc w hj.length KM
 ·rw [hm] at KM KA
  obtain ⟨i1,i2⟩:=at_in j.n c r
  exact arBack_yes cs c r (atA j.n c r).1 (atA j.n c r).2.1 (atA j.n c r).2.2 (flipS j.n).1 (flipS j.n).2.1 (flipS j.n).2.2 _ _ _ sa sn sc w hj.length KM KA (fun w1 hb=>styFlip cs j w1 (hj.up hb)) (fun w1=>pthen_any _ _ _ _ _ _ w1 i1.1 i1.2 i2.1 i2.2)
theorem Try.infoRcZ:(Try.prog.info? 40).map (fun i=>(i.zero,i.size,i.bytes))=some (some (.agg #[.int .i64 0,.int .i64 0,.int .i64 0,.int .i64 0]),4,32):=by kernel_rfl
def rcL (p:Int×Int×Int×Int):List Value:=[.int .i64 p.1,.int .i64 p.2.1,.int .i64 p.2.2.1,.int .i64 p.2.2.2]
def rcs (l:List (Int×Int×Int×Int)):List Value:=l.flatMap rcL
theorem rcs_cons (p:Int×Int×Int×Int) (l:List (Int×Int×Int×Int)):rcs (p :: l)=rcL p++rcs l:=rfl
theorem rcs_append (l m:List (Int×Int×Int×Int)):rcs (l++m)=rcs l++rcs m:=by simp [rcs]
theorem rcs_one {l:List (Int×Int×Int×Int)}:∀ u∈rcs l,u.oneCell'=true:=by
 intro u hu
 obtain ⟨p,_,hp⟩:=List.mem_flatMap.1 hu
 simp only [rcL,List.mem_cons,List.not_mem_nil,or_false] at hp
 rcases hp with rfl | rfl | rfl | rfl<;>rfl
theorem rcs_at {l:List (Int×Int×Int×Int)} {j:Nat} {p:Int×Int×Int×Int} (h:l[j]?=some p) (i:Nat) (hi:i<4):(rcs l)[j*4+i]?=(rcL p)[i]?:=by
 induction l generalizing j with
 | nil=>simp at h
 | cons q l ih =>
  rw [rcs_cons]
  cases j with
  | zero =>
   simp only [List.getElem?_cons_zero,Option.some.injEq] at h
   subst h
   rw [List.getElem?_append_left (by show _<4;omega),Nat.zero_mul,Nat.zero_add]
  | succ j =>
   rw [List.getElem?_cons_succ] at h
   rw [List.getElem?_append_right (by show 4≤_;omega),←ih h]
   congr 1
   show _-4=_
   omega
def OwnQ (w:World) (base:Nat) (v:Value) (l:List (Int×Int×Int×Int)):Prop:=w.ownsRow base 40 4 v l.length (rcs l)
theorem OwnQ.nil (w:World) (base:Nat):OwnQ w base (.slice none 0 0) []:=World.ownsRow_nil _ _ _ _
theorem OwnQ.up {w w':World} {base:Nat} {v:Value} {l:List (Int×Int×Int×Int)} (h:OwnQ w base v l) (hb:Below w.heap.size w w'):OwnQ w' base v l:=own_kept h fun k _ hk=>hb.block k hk
theorem OwnQ.tells {w:World} {base:Nat} {v:Value} {l:List (Int×Int×Int×Int)} (h:OwnQ w base v l):∃ a cap,v=.slice a l.length cap∧RcsA w a l:=by
 have h':=h
 rcases h.2 with ⟨rfl,h0⟩ | ⟨g,cap,cur,rfl,hb,hg,hcap,hmax,hsz,htk⟩
 ·exact ⟨none,0,by rw [h0],.inl (List.eq_nil_of_length_eq_zero h0)⟩
 ·refine ⟨some ⟨g,0,none⟩,cap,rfl,.inr ⟨g,0,rfl,fun i p hp=>?_⟩⟩
  have C:∀ k u,(rcs l)[k]?=some u→w.cell? ⟨g,k,none⟩=some u:=fun k u hu=>by
   have:=h'.cells (g:=g) rfl k u hu
   rwa [show (⟨g,0,none⟩:Addr).add k=⟨g,k,none⟩ by unfold Addr.add;split<;>simp_all] at this
  rw [Nat.zero_add]
  exact ⟨C (i*4) _ (by rw [show i*4=i*4+0 from rfl,rcs_at hp 0 (by omega)];rfl),C _ _ (by rw [rcs_at hp 1 (by omega)];rfl),C _ _ (by rw [rcs_at hp 2 (by omega)];rfl),C _ _ (by rw [rcs_at hp 3 (by omega)];rfl)⟩
theorem step_append_rc {u:World} {ops:Array Oper} {o:Oper} {a:Act} {K:Act→World→Prop} {Q:Exit→Act→World→Prop} {E:Prop} (hgd:o.guard=none) (s x:Operand)
  (ho:o.op=.call { callee:=.builtin .append,args:=#[s,x],argTypes:=#[37,37] })
  (base:Nat) (v:Value) (L:List (Int×Int×Int×Int)) (hs:a.eval s=v) (hown:OwnQ u base v L) (hbase:base≤u.heap.size)
  (p:Int×Int×Int×Int) (H:Nat) (hx:a.eval x=.slice (some ⟨H,0,none⟩) 1 1) (hb:Bx u H (rcL p)) (hl:L.length≤1000000)
  (h:∀ v' w',OwnQ w' base v' (L++[p])→Below base u w'→K (a.put o.dst v') w'):if Region.wanted o (yielded ops a.tmps)=true then Oper.wp Try.prog o a u K Q else E:=by
 obtain ⟨i0,hi0,hz0,hz1,hz2⟩:=info_parts Try.infoRcZ
 refine step_append_lies _ hgd s x 37 ho base 40 i0 _ 4 32 Try.underlying37 hi0 hz0 hz1 hz2 rfl (by omega) v L.length _ hs hown ⟨H,0,none⟩ 1 1 (rcL p) hx rfl ?_ ?_ (by omega) (by unfold maxLen;omega) (by omega) hbase _ rfl ?_
 ·intro k q hq
  rw [Addr.add_mid,Nat.zero_add]
  exact hb.1 k q hq
 ·intro q hq
  exact rcs_one (l:=[p]) q (by simpa [rcs] using hq)
 ·intro g cap w1 hown1 hgrow hat hlt
  refine h (.slice (some ⟨g,0,none⟩) (L.length+1) cap) w1 ?_ (Below.grown (Below.refl _ _) hgrow hbase (fun k hk=>(World.ownsRow.lt hown k hk).1))
  unfold OwnQ
  rw [List.length_append,rcs_append]
  simpa [rcs] using hown1
end Go.Proofs.Ytabinmabggnhbaa
namespace Go.Proofs.Ytabinmabggnhbaa
open Go.RowKit
def takeable (o:Oper):Bool:=match o.op with
 | .move _ | .assign _ | .pick .. | .load .. | .fieldAddr .. | .indexAddr .. | .binOp .. | .unOp .. | .build .. | .field .. | .index ..  | .convert .. | .extract .. | .slice ..=>true
 | _=>false
theorem value_of {P:Program} {m:Sem Value} {w w':World} {n:Next} (h:(m >>= fun x=>pure (Next.value x)).run P w=.ok n w'):∃ u,n=.value u:=by
 rw [Sem.run_bind] at h
 cases hm:m.run P w with
 | ok x w1=>rw [hm] at h;cases h;exact ⟨x,rfl⟩
 | halt x w1=>rw [hm] at h;cases h
theorem bool_of {P:Program} {m:Sem Bool} {x y:Value} {w w':World} {n:Next} (h:(m >>= fun b=>pure (Next.value (if b=true then x else y))).run P w=.ok n w'):∃ u,n=.value u:=by
 rw [Sem.run_bind] at h
 cases hm:m.run P w with
 | ok b w1=>rw [hm] at h;cases h;exact ⟨_,rfl⟩
 | halt b w1=>rw [hm] at h;cases h
theorem takeable_value {P:Program} {o:Oper} {ρ:Operand→Value} {w w':World} {n:Next} (ht:takeable o=true) (h:(execOp ρ o).run P w=.ok n w'):∃ u,n=.value u:=by
 unfold takeable at ht
 unfold execOp at h
 split at ht
 all_goals first
  | exact absurd ht (by decide)
  | (rename_i e;rw [e] at h;exact value_of h)
  | (rename_i e;rw [e] at h;cases h;exact ⟨_,rfl⟩)
  | (rename_i e;rw [e] at h;exact bool_of h)
def takesB (ops:Array Oper):Array Bool→List Nat→Option (Array Bool)
 | s,[]=>some s
 | s,i :: r=>if (Region.ready .any ops s).contains i&&Region.free .any ops s i&&(ops[i]?.map takeable).getD false then takesB ops (s.setIfInBounds i true) r else none
def planB (ops:Array Oper):Array Bool→List (List Nat×Nat)→List Nat→Bool
 | s,[],fin=>match takesB ops s fin with
  | some s'=>(Region.ready .any ops s').isEmpty
  | none=>false
 | s,(is,c) :: r,fin=>match takesB ops s is with
  | some s'=>decide (Region.ready .any ops s'=[c])&&planB ops (s'.setIfInBounds c true) r fin
  | none=>false
def planOk (l:List Oper) (plan:List (List Nat×Nat)) (fin:List Nat):Bool:=Region.noSelect l.toArray&&planB l.toArray (Array.replicate l.length false) plan fin
def noOper : Oper := { dst := none, op := .move (.tmp 0), type := 0, pos := "", after := #[], guard := none }
def walkC (P:Program) (l:List Oper) (Q:Exit→Act→World→Prop) (S:World→Prop):List (List Nat×Nat)→List Nat→Act→World→Prop
 | [],fin,a,w=>wpQuiet P l.toArray S (fun a'=>Q .normal a' w) (fin.map fun i=>l.getD i noOper) a
 | (is,c) :: r,fin,a,w=>wpQuiet P l.toArray S (fun a'=>∀ o,l[c]?=some o→∀ K:Act→World→Prop,Shut (∀ a w,S w→walkC P l Q S r fin a w→K a w) →
   if Region.wanted o (yielded l.toArray a'.tmps)=true then Oper.wp P o a' w K Q else K (a'.put o.dst undef) w) (is.map fun i=>l.getD i noOper) a
section
variable {P:Program} {l:List Oper} {Q:Exit→Act→World→Prop} {S:World→Prop}
theorem walkC_take {is:List Nat} {c:Nat} {r:List (List Nat×Nat)} {fin:List Nat} {a:Act} {w:World} (oc:Oper) (hc:l[c]?=some oc)
  (h:∀ K0:Act→Prop,Shut (∀ a',(∀ K:Act→World→Prop,Shut (∀ a w,S w→walkC P l Q S r fin a w→K a w)→if Region.wanted oc (yielded l.toArray a'.tmps)=true then Oper.wp P oc a' w K Q else K (a'.put oc.dst undef) w)→K0 a') →
   wpQuiet P l.toArray S K0 (is.map fun i=>l.getD i noOper) a):walkC P l Q S ((is,c) :: r) fin a w:=by
 refine h _ (fun a' h' o ho=>?_)
 rw [hc] at ho
 cases ho
 exact h'
theorem walkC_last {fin:List Nat} {a:Act} {w:World} (h:∀ K0:Act→Prop,Shut (∀ a',Q .normal a' w→K0 a')→wpQuiet P l.toArray S K0 (fin.map fun i=>l.getD i noOper) a):walkC P l Q S [] fin a w :=
 h _ (fun _ h=>h)
theorem takes_list (hsel:Region.noSelect l.toArray=true) (hQ:∀ c (a:Act) d v w,Q (.panic c) (a.put d v) w→Q (.panic c) a w) {w:World} (hS:S w) (fuel:Nat) :
  ∀ (is:List Nat) (s s':Array Bool) (a:Act),takesB l.toArray s is=some s'→wpQuiet P l.toArray S (fun a'=>wpAnyH P .any l.toArray Q S fuel s' a' w) (is.map fun i=>l.getD i noOper) a→wpAnyH P .any l.toArray Q S (fuel+is.length) s a w
 | [],s,s',a,h,hq=>by
  simp only [takesB,Option.some.injEq] at h
  subst h
  exact hq
 | i :: r,s,s',a,h,hq=>by
  unfold takesB at h
  split at h
  ·rename_i hc
   simp only [Bool.and_eq_true] at hc
   obtain ⟨⟨h1,h2⟩,h3⟩:=hc
   cases ho:l[i]? with
   | none=>rw [show l.toArray[i]?=none by simpa using ho] at h3;cases h3
   | some o =>
    have ho':l.toArray[i]?=some o:=by simpa using ho
    rw [ho'] at h3
    simp only [Option.map_some,Option.getD_some] at h3
    rw [List.map_cons,List.getD_eq_getElem?_getD,ho,Option.getD_some] at hq
    have go:∀ v,YieldsIf P l.toArray S o v a→wpQuiet P l.toArray S (fun a'=>wpAnyH P .any l.toArray Q S fuel s' a' w) (r.map fun i=>l.getD i noOper) (a.put o.dst v)→wpAnyH P .any l.toArray Q S (fuel+(i :: r).length) s a w:=fun v hy hv =>
     wpAnyH_take ho' hsel h2 h1 (fun c a w h=>hQ c a _ _ w h) hy hS (takes_list hsel hQ hS fuel r _ s' _ h hv)
    simp only [wpQuiet] at hq
    split at hq
    ·rename_i hw
     obtain ⟨v,hv,hr⟩:=hq
     refine go v (.inl ⟨hw,fun w hw=>?_⟩) hr
     have:=hv w hw
     unfold Oper.quietAt at this
     cases hrun:(execOp a.eval o).run P w with
     | ok n w' =>
      obtain ⟨u,rfl⟩:=takeable_value h3 hrun
      rw [hrun] at this
      simp only [Oper.quietUpon] at this
      rw [this.1,this.2]
     | halt x w'=>rw [hrun] at this;exact this.elim
    ·rename_i hw
     exact go undef (.inr ⟨by simpa using hw,rfl⟩) hq
  ·cases h
theorem walkC_wp (hsel:Region.noSelect l.toArray=true) (hQ:∀ c (a:Act) d v w,Q (.panic c) (a.put d v) w→Q (.panic c) a w) (fin:List Nat) :
  ∀ (plan:List (List Nat×Nat)) (s:Array Bool) (a:Act) (w:World),S w→planB l.toArray s plan fin=true→walkC P l Q S plan fin a w→∀ fuel,wpAnyH P .any l.toArray Q S ((plan.map fun x=>x.1.length+1).sum+fin.length+fuel) s a w
 | [],s,a,w,hS,hB,h,fuel=>by
  simp only [planB] at hB
  split at hB
  ·rename_i s' hs
   have hr:Region.ready .any l.toArray s'=[]:=by simpa using hB
   have H:∀ (m:List Oper) (a:Act),wpQuiet P l.toArray S (fun a'=>Q .normal a' w) m a→wpQuiet P l.toArray S (fun a'=>wpAnyH P .any l.toArray Q S fuel s' a' w) m a:=by
    intro m
    induction m with
    | nil=>intro a h;exact wpAnyH_done hr h _
    | cons o m ih =>
     intro a h
     simp only [wpQuiet] at h ⊢
     split
     ·rename_i hw
      rw [if_pos hw] at h
      obtain ⟨v,h1,h2⟩:=h
      exact ⟨v,h1,ih _ h2⟩
     ·rename_i hw
      rw [if_neg hw] at h
      exact ih _ h
   have:=takes_list hsel hQ hS fuel fin s s' a hs (H _ _ h)
   rwa [show ([]:List (List Nat×Nat)).map (fun x=>x.1.length+1)=[] from rfl,List.sum_nil,Nat.zero_add,Nat.add_comm]
  ·cases hB
 | (is,c) :: r,s,a,w,hS,hB,h,fuel=>by
  simp only [planB] at hB
  split at hB
  ·rename_i s' hs
   simp only [Bool.and_eq_true,decide_eq_true_eq] at hB
   obtain ⟨hr,hB⟩:=hB
   have hmem:c∈Region.ready .any l.toArray s':=by rw [hr];simp
   obtain ⟨-,o,ho,-⟩:=mem_ready.1 hmem
   have ho':l[c]?=some o:=by simpa using ho
   have H:∀ (m:List Oper) (a:Act),wpQuiet P l.toArray S (fun a'=>∀ o,l[c]?=some o→∀ K:Act→World→Prop,Shut (∀ a w,S w→walkC P l Q S r fin a w→K a w) →
     if Region.wanted o (yielded l.toArray a'.tmps)=true then Oper.wp P o a' w K Q else K (a'.put o.dst undef) w) m a→wpQuiet P l.toArray S (fun a'=>wpAnyH P .any l.toArray Q S ((r.map fun x=>x.1.length+1).sum+fin.length+fuel+1) s' a' w) m a:=by
    intro m
    induction m with
    | nil =>
     intro a h
     refine wpAnyH_ready hr (by simp) (AllReadyH.cons ho (fun K hK=>h o ho' K (fun a w hS hW=>hK a w hS (fun hS=>walkC_wp hsel hQ fin r _ a w hS hB hW fuel))) AllReadyH.nil)
    | cons o m ih =>
     intro a h
     simp only [wpQuiet] at h ⊢
     split
     ·rename_i hw
      rw [if_pos hw] at h
      obtain ⟨v,h1,h2⟩:=h
      exact ⟨v,h1,ih _ h2⟩
     ·rename_i hw
      rw [if_neg hw] at h
      exact ih _ h
   have:=takes_list hsel hQ hS _ is s s' a hs (H _ _ h)
   rw [List.map_cons,List.sum_cons]
   rwa [show is.length+1+(r.map fun x=>x.1.length+1).sum+fin.length+fuel=(r.map fun x=>x.1.length+1).sum+fin.length+fuel+1+is.length by omega]
  ·cases hB
end
end Go.Proofs.Ytabinmabggnhbaa
