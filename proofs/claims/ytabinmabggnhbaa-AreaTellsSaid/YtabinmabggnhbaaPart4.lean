/- Part 4 of the texts that the proofs of this seat share: RefStyle, PlaceAlive, StyleSpec, BoxOf, FirstAll, AreaMath, JobFr, RefFirst, BoxCode, BoxSums, RefArea. -/
import Derived.Test.YtabinmabggnhbaaPart3
import Derived.Test.YtabinmabggnhbaaPart1
import Derived.Deep.DeepCutAuto
import Derived.Test.YtabinmabggnhbaaPart2
import Derived.Test.YtabinmabggnhbaaProg
import Derived.WalkKit
import Derived.WalkSpells
import Derived.WalkLawsBesides
import Derived.Lib.Hide
import Derived.Outline
import Derived.Below
import Derived.Deep.RegionHeld3
import Derived.Deep.Light
import Derived.IntWalk
import Derived.Deep.QuietTactic
import Derived.BigQuiet
set_option linter.unusedSimpArgs false
set_option linter.unusedVariables false
namespace Go.Proofs.Ytabinmabggnhbaa
open Go.RowKit
theorem refAcross_any (cs:List Value) (s:Int) (w:World) (c16:cs[16]?=some (.int .i64 s)) :
  Calls Try.prog 48 #[.agg cs.toArray] w fun e w'=>e=.returned (.bool (acrB s))∧Below w.heap.size w w':=by
 have HX:=Bx.new w 29 cs
 have HB:=Lib.hid (up_alloc (Below.refl w.heap.size w) (.cells cs.toArray 29))
 have b16:=HX.cell 16 c16
 clear HX c16
 generalize cs.toArray=ca at *
 obtain ⟨u,hu⟩:∃ u,(s==2)=u:=⟨_,rfl⟩
 obtain ⟨v,hv⟩:∃ v,(s==4)=v:=⟨_,rfl⟩
 have E:=Lib.hid (show acrB s=(u || v) by rw [←hu,←hv];unfold acrB;rfl)
 cases u<;>cases v
 all_goals
  rw [E.out]
  go_enter Try.func48,Try.ntmps48
  go_wp2
  go_ret
  exact ⟨rfl,HB.out⟩
set_option maxRecDepth 100000 in
set_option maxHeartbeats 1000000 in
theorem refFlip_core (cs:List Value) (s W H:Int) (f0 f1 f2:Int) (u v a:Bool) (w:World) (hL:cs.length=33) (c16:cs[16]?=some (.int .i64 s)) (c17:cs[17]?=some (.int .i64 W)) (c18:cs[18]?=some (.int .i64 H))
  (hu:decide (s<1)=u) (hv:decide (4<s)=v) (h0:(if (u || v)=true then 0 else if a=true then 6 else 4)=f0) (h1:(if (u || v)=true then 0 else if a=true then 0 else W)=f1) (h2:(if (u || v)=true then 0 else if a=true then H else 0)=f2)
  (KA:∀ w1,Calls Try.prog 48 #[.agg cs.toArray] w1 fun e w'=>e=.returned (.bool a)∧Below w1.heap.size w1 w') :
  Calls Try.prog 42 #[.agg cs.toArray] w fun e w'=>e=.returned (.agg #[.int .i64 f0,.int .i64 f1,.int .i64 f2])∧Below w.heap.size w w':=by
 have X1:=Bx.new w 29 cs
 have U1:=up_alloc (Below.refl w.heap.size w) (.cells cs.toArray 29)
 have U2:=up_alloc (Below.refl _ (w.alloc (.cells cs.toArray 29))) (.cells #[.int .i64 0,.int .i64 0,.int .i64 0] 35)
 have HX:=Lib.hid (X1.later (by rw [hL];decide) U2)
 have R1:=Bx.new (w.alloc (.cells cs.toArray 29)) 35 [.int .i64 0,.int .i64 0,.int .i64 0]
 rw [World.size_alloc] at R1
 have HR:=Lib.hid R1
 have HB:=Lib.hid (up_trans U1 U2)
 have HL:=Lib.hid hL;have HA:=Lib.hid KA;have H16:=Lib.hid c16;have H17:=Lib.hid c17;have H18:=Lib.hid c18
 have E0:=Lib.hid h0;have E1:=Lib.hid h1;have E2:=Lib.hid h2
 have b16:=HX.out.cell 16 H16.out
 obtain ⟨w1,hw1⟩:∃ w1,(w.alloc (.cells cs.toArray 29)).alloc (.cells #[.int .i64 0,.int .i64 0,.int .i64 0] 35)=w1:=⟨_,rfl⟩
 have HW:=Lib.hid hw1
 rw [hw1] at HX HR HB
 clear X1 U1 U2 R1 hL KA c16 c17 c18 h0 h1 h2 hw1
 have fin:∀ (p q r:Int) (w3:World),Bx w3 (w.heap.size+1) [.int .i64 p,.int .i64 q,.int .i64 r]→True:=fun _ _ _ _ _=>trivial
 clear fin
 cases u
 ·cases v
  ·cases a
   ·obtain rfl:(4:Int)=f0:=E0.out
    obtain rfl:(W:Int)=f1:=E1.out
    obtain rfl:(0:Int)=f2:=E2.out
    go_enter Try.func42,Try.ntmps42
    go_upto_if 10 with fail
    rw [HW.out]
    clear b16
    go_wp2_with (refine wpList_load_job rfl _ rfl w.heap.size rfl cs HX.out HL.out ?_;simp only [Act.put,List.setIfInBounds_toArray,List.set_cons_succ,List.set_cons_zero])
    refine (HA.out _).mono ?_
    rintro e w2 ⟨rfl,hb⟩
    have X2:=HX.out.later (by rw [HL.out];decide) hb
    have R2:=HR.out.up hb
    have BB:=Lib.hid (up_trans HB.out hb)
    have b17:=X2.cell 17 H17.out;have b18:=X2.cell 18 H18.out
    have r0:=R2.cell 0 rfl;have r1:=R2.cell 1 rfl;have r2:=R2.cell 2 rfl;have rf:=R2.free
    have R4:=R2.set3 (.int .i64 4) (.int .i64 W) (.int .i64 0)
    clear hb X2 R2
    have p0:=Lib.hid (R4.cell 0 rfl);have p1:=Lib.hid (R4.cell 1 rfl);have p2:=Lib.hid (R4.cell 2 rfl)
    clear R4
    go_wp2
    have q0:=p0.out;have q1:=p1.out;have q2:=p2.out
    refine bodyPost_ret (v:=.agg #[.int .i64 4,.int .i64 W,.int .i64 0]) (by simp [results,Try.results42,go_sem,q0,q1,q2]) rfl ⟨rfl,?_⟩
    exact up_set (up_set (up_set BB.out (by simp only;omega) _) (by simp only;omega) _) (by simp only;omega) _
   ·obtain rfl:(6:Int)=f0:=E0.out
    obtain rfl:(0:Int)=f1:=E1.out
    obtain rfl:(H:Int)=f2:=E2.out
    go_enter Try.func42,Try.ntmps42
    go_upto_if 10 with fail
    rw [HW.out]
    clear b16
    go_wp2_with (refine wpList_load_job rfl _ rfl w.heap.size rfl cs HX.out HL.out ?_;simp only [Act.put,List.setIfInBounds_toArray,List.set_cons_succ,List.set_cons_zero])
    refine (HA.out _).mono ?_
    rintro e w2 ⟨rfl,hb⟩
    have X2:=HX.out.later (by rw [HL.out];decide) hb
    have R2:=HR.out.up hb
    have BB:=Lib.hid (up_trans HB.out hb)
    have b17:=X2.cell 17 H17.out;have b18:=X2.cell 18 H18.out
    have r0:=R2.cell 0 rfl;have r1:=R2.cell 1 rfl;have r2:=R2.cell 2 rfl;have rf:=R2.free
    have R4:=R2.set3 (.int .i64 6) (.int .i64 0) (.int .i64 H)
    clear hb X2 R2
    have p0:=Lib.hid (R4.cell 0 rfl);have p1:=Lib.hid (R4.cell 1 rfl);have p2:=Lib.hid (R4.cell 2 rfl)
    clear R4
    go_wp2
    have q0:=p0.out;have q1:=p1.out;have q2:=p2.out
    refine bodyPost_ret (v:=.agg #[.int .i64 6,.int .i64 0,.int .i64 H]) (by simp [results,Try.results42,go_sem,q0,q1,q2]) rfl ⟨rfl,?_⟩
    exact up_set (up_set (up_set BB.out (by simp only;omega) _) (by simp only;omega) _) (by simp only;omega) _
  ·obtain rfl:(0:Int)=f0:=E0.out
   obtain rfl:(0:Int)=f1:=E1.out
   obtain rfl:(0:Int)=f2:=E2.out
   go_enter Try.func42,Try.ntmps42
   go_upto_if 10 with fail
   rw [HW.out]
   clear b16
   have r0:=HR.out.cell 0 rfl;have r1:=HR.out.cell 1 rfl;have r2:=HR.out.cell 2 rfl;have rf:=HR.out.free
   have R4:=HR.out.set3 (.int .i64 0) (.int .i64 0) (.int .i64 0)
   have BB:=HB
   have w9:=0
   have p0:=Lib.hid (R4.cell 0 rfl);have p1:=Lib.hid (R4.cell 1 rfl);have p2:=Lib.hid (R4.cell 2 rfl)
   clear R4
   go_wp2
   have q0:=p0.out;have q1:=p1.out;have q2:=p2.out
   refine bodyPost_ret (v:=.agg #[.int .i64 0,.int .i64 0,.int .i64 0]) (by simp [results,Try.results42,go_sem,q0,q1,q2]) rfl ⟨rfl,?_⟩
   exact up_set (up_set (up_set BB.out (by simp only;omega) _) (by simp only;omega) _) (by simp only;omega) _
 ·obtain rfl:(0:Int)=f0:=E0.out
  obtain rfl:(0:Int)=f1:=E1.out
  obtain rfl:(0:Int)=f2:=E2.out
  go_enter Try.func42,Try.ntmps42
  go_upto_if 10 with fail
  rw [HW.out]
  clear b16
  have r0:=HR.out.cell 0 rfl;have r1:=HR.out.cell 1 rfl;have r2:=HR.out.cell 2 rfl;have rf:=HR.out.free
  have R4:=HR.out.set3 (.int .i64 0) (.int .i64 0) (.int .i64 0)
  have BB:=HB
  have w9:=0
  have p0:=Lib.hid (R4.cell 0 rfl);have p1:=Lib.hid (R4.cell 1 rfl);have p2:=Lib.hid (R4.cell 2 rfl)
  clear R4
  go_wp2
  have q0:=p0.out;have q1:=p1.out;have q2:=p2.out
  refine bodyPost_ret (v:=.agg #[.int .i64 0,.int .i64 0,.int .i64 0]) (by simp [results,Try.results42,go_sem,q0,q1,q2]) rfl ⟨rfl,?_⟩
  exact up_set (up_set (up_set BB.out (by simp only;omega) _) (by simp only;omega) _) (by simp only;omega) _
set_option maxRecDepth 100000 in
set_option maxHeartbeats 4000000 in
theorem refArea_core (cs:List Value) (s W H S G T x1 y1 m ym o0 o1 o2 o3:Int) (u v a g:Bool) (w:World) (hL:cs.length=33) (c16:cs[16]?=some (.int .i64 s)) (c17:cs[17]?=some (.int .i64 W)) (c18:cs[18]?=some (.int .i64 H)) (c19:cs[19]?=some (.int .i64 S)) (c20:cs[20]?=some (.int .i64 G)) (c21:cs[21]?=some (.int .i64 T))
  (hu:decide (s<1)=u) (hv:decide (4<s)=v) (e1:IntKind.i64.wrap (W-S)=x1) (e2:IntKind.i64.wrap (H-T)=y1) (hg:decide (G<T)=g) (hm:(if g=true then T else G)=m) (e3:IntKind.i64.wrap (H-m)=ym)
  (h0:(if (u || v)=true then 0 else S)=o0) (h1:(if (u || v)=true then 0 else if a=true then m else G)=o1) (h2:(if (u || v)=true then 0 else x1)=o2) (h3:(if (u || v)=true then 0 else if a=true then ym else y1)=o3)
  (KA:∀ w1,Calls Try.prog 48 #[.agg cs.toArray] w1 fun e w'=>e=.returned (.bool a)∧Below w1.heap.size w1 w') :
  Calls Try.prog 22 #[.agg cs.toArray] w fun e w'=>e=.returned (.agg #[.int .i64 o0,.int .i64 o1,.int .i64 o2,.int .i64 o3])∧Below w.heap.size w w':=by
 have X1:=Bx.new w 29 cs
 have U1:=up_alloc (Below.refl w.heap.size w) (.cells cs.toArray 29)
 have U2:=up_alloc (Below.refl _ (w.alloc (.cells cs.toArray 29))) (.cells #[.int .i64 0,.int .i64 0,.int .i64 0,.int .i64 0] 40)
 have HX:=Lib.hid (X1.later (by rw [hL];decide) U2)
 have R1:=Bx.new (w.alloc (.cells cs.toArray 29)) 40 [.int .i64 0,.int .i64 0,.int .i64 0,.int .i64 0]
 rw [World.size_alloc] at R1
 have HR:=Lib.hid R1
 have HB:=Lib.hid (up_trans U1 U2)
 have HL:=Lib.hid hL;have HA:=Lib.hid KA;have H16:=Lib.hid c16;have H17:=Lib.hid c17;have H18:=Lib.hid c18;have H19:=Lib.hid c19;have H20:=Lib.hid c20;have H21:=Lib.hid c21
 have E0:=Lib.hid h0;have E1:=Lib.hid h1;have E2:=Lib.hid h2;have E3:=Lib.hid h3;have EM:=Lib.hid hm;have E4:=Lib.hid e3
 have b16:=HX.out.cell 16 H16.out
 obtain ⟨w1,hw1⟩:∃ w1,(w.alloc (.cells cs.toArray 29)).alloc (.cells #[.int .i64 0,.int .i64 0,.int .i64 0,.int .i64 0] 40)=w1:=⟨_,rfl⟩
 have HW:=Lib.hid hw1
 rw [hw1] at HX HR HB
 clear X1 U1 U2 R1 hL KA c16 c17 c18 c19 c20 c21 h0 h1 h2 h3 hm e3 hw1
 cases u
 ·cases v
  ·cases a
   ·obtain rfl:S=o0:=E0.out
    obtain rfl:G=o1:=E1.out
    obtain rfl:x1=o2:=E2.out
    obtain rfl:y1=o3:=E3.out
    go_enter Try.func22,Try.ntmps22
    go_upto_if 12 with fail
    rw [HW.out]
    clear b16
    have b17:=HX.out.cell 17 H17.out;have b18:=HX.out.cell 18 H18.out;have b19:=HX.out.cell 19 H19.out;have b20:=HX.out.cell 20 H20.out;have b21:=HX.out.cell 21 H21.out
    have U3:=up_alloc (Below.refl _ w1) (.cells #[.int .i64 S,.int .i64 G,.int .i64 x1,.int .i64 y1] 40)
    have S3:=Bx.new w1 40 [.int .i64 S,.int .i64 G,.int .i64 x1,.int .i64 y1]
    have X3:=Lib.hid (HX.out.later (by rw [HL.out];decide) U3)
    have R3:=HR.out.up U3
    have B3:=Lib.hid (up_trans HB.out U3)
    have hlow:w.heap.size+1<w1.heap.size:=HR.out.lt
    go_wp2_with (refine wpList_load_job rfl _ rfl w.heap.size rfl cs X3.out HL.out ?_;simp only [Act.put,List.setIfInBounds_toArray,List.set_cons_succ,List.set_cons_zero])
    refine (HA.out _).mono ?_
    rintro e w2 ⟨rfl,hb⟩
    have X4:=X3.out.later (by rw [HL.out];decide) hb
    have R4:=R3.up hb
    have S4:=S3.up hb
    have B4:=Lib.hid (up_trans B3.out hb)
    clear hb b17 b18 b19 b20 b21 U3 S3 X3 R3 B3
    have S5:=S4
    have R5:=R4
    have BB:=B4
    have k0:=S5.cell 0 rfl;have k1:=S5.cell 1 rfl;have k2:=S5.cell 2 rfl;have k3:=S5.cell 3 rfl
    have r0:=R5.cell 0 rfl;have r1:=R5.cell 1 rfl;have r2:=R5.cell 2 rfl;have r3:=R5.cell 3 rfl;have rf:=R5.free
    have R6:=(((R5.set 0 (.int .i64 S)).set 1 (.int .i64 G)).set 2 (.int .i64 x1)).set 3 (.int .i64 y1)
    clear X4 S4 R4 S5 R5
    have R4:=R6
    clear R6
    have p0:=Lib.hid (R4.cell 0 rfl);have p1:=Lib.hid (R4.cell 1 rfl);have p2:=Lib.hid (R4.cell 2 rfl);have p3:=Lib.hid (R4.cell 3 rfl)
    clear R4
    go_wp2
    have q0:=p0.out;have q1:=p1.out;have q2:=p2.out;have q3:=p3.out
    refine bodyPost_ret (v:=.agg #[.int .i64 S,.int .i64 G,.int .i64 x1,.int .i64 y1]) (by simp [results,Try.results22,go_sem,q0,q1,q2,q3]) rfl ⟨rfl,?_⟩
    exact up_set (up_set (up_set (up_set BB.out (by simp only;omega) _) (by simp only;omega) _) (by simp only;omega) _) (by simp only;omega) _
   ·cases g
    ·obtain rfl:S=o0:=E0.out
     obtain rfl:m=o1:=E1.out
     obtain rfl:x1=o2:=E2.out
     obtain rfl:ym=o3:=E3.out
     go_enter Try.func22,Try.ntmps22
     go_upto_if 12 with fail
     rw [HW.out]
     clear b16
     have b17:=HX.out.cell 17 H17.out;have b18:=HX.out.cell 18 H18.out;have b19:=HX.out.cell 19 H19.out;have b20:=HX.out.cell 20 H20.out;have b21:=HX.out.cell 21 H21.out
     have U3:=up_alloc (Below.refl _ w1) (.cells #[.int .i64 S,.int .i64 G,.int .i64 x1,.int .i64 y1] 40)
     have S3:=Bx.new w1 40 [.int .i64 S,.int .i64 G,.int .i64 x1,.int .i64 y1]
     have X3:=Lib.hid (HX.out.later (by rw [HL.out];decide) U3)
     have R3:=HR.out.up U3
     have B3:=Lib.hid (up_trans HB.out U3)
     have hlow:w.heap.size+1<w1.heap.size:=HR.out.lt
     go_wp2_with (refine wpList_load_job rfl _ rfl w.heap.size rfl cs X3.out HL.out ?_;simp only [Act.put,List.setIfInBounds_toArray,List.set_cons_succ,List.set_cons_zero])
     refine (HA.out _).mono ?_
     rintro e w2 ⟨rfl,hb⟩
     have X4:=X3.out.later (by rw [HL.out];decide) hb
     have R4:=R3.up hb
     have S4:=S3.up hb
     have B4:=Lib.hid (up_trans B3.out hb)
     clear hb b17 b18 b19 b20 b21 U3 S3 X3 R3 B3
     obtain hm:G=m:=EM.out
     have e3:=E4.out
     have b18:=X4.cell 18 H18.out;have b20:=X4.cell 20 H20.out;have b21:=X4.cell 21 H21.out
     have s0:=S4.cell 0 rfl;have s1:=S4.cell 1 rfl;have s2:=S4.cell 2 rfl;have s3:=S4.cell 3 rfl;have sf:=S4.free
     have nx:w1.heap.size≠w.heap.size:=by omega
     have nr:w1.heap.size≠w.heap.size+1:=by omega
     subst hm
     have S5:=(S4.set 1 (.int .i64 G)).set 3 (.int .i64 ym)
     have t1:=(S4.set 1 (.int .i64 G)).cell 3 rfl;have tf:=(S4.set 1 (.int .i64 G)).free
     have b18':=(X4.far (p:=⟨w1.heap.size,1,none⟩) nx (.int .i64 G)).cell 18 H18.out
     have R5:=(R4.far (p:=⟨w1.heap.size,1,none⟩) nr (.int .i64 G)).far (p:=⟨w1.heap.size,3,none⟩) nr (.int .i64 ym)
     have BB:=Lib.hid (up_set (up_set B4.out (p:=⟨w1.heap.size,1,none⟩) (by simp only;omega) (.int .i64 G)) (p:=⟨w1.heap.size,3,none⟩) (by simp only;omega) (.int .i64 ym))
     have k0:=S5.cell 0 rfl;have k1:=S5.cell 1 rfl;have k2:=S5.cell 2 rfl;have k3:=S5.cell 3 rfl
     have r0:=R5.cell 0 rfl;have r1:=R5.cell 1 rfl;have r2:=R5.cell 2 rfl;have r3:=R5.cell 3 rfl;have rf:=R5.free
     have R6:=(((R5.set 0 (.int .i64 S)).set 1 (.int .i64 G)).set 2 (.int .i64 x1)).set 3 (.int .i64 ym)
     clear X4 S4 R4 S5 R5
     have R4:=R6
     clear R6
     have p0:=Lib.hid (R4.cell 0 rfl);have p1:=Lib.hid (R4.cell 1 rfl);have p2:=Lib.hid (R4.cell 2 rfl);have p3:=Lib.hid (R4.cell 3 rfl)
     clear R4
     go_wp2
     have q0:=p0.out;have q1:=p1.out;have q2:=p2.out;have q3:=p3.out
     refine bodyPost_ret (v:=.agg #[.int .i64 S,.int .i64 G,.int .i64 x1,.int .i64 ym]) (by simp [results,Try.results22,go_sem,q0,q1,q2,q3]) rfl ⟨rfl,?_⟩
     exact up_set (up_set (up_set (up_set BB.out (by simp only;omega) _) (by simp only;omega) _) (by simp only;omega) _) (by simp only;omega) _
    ·obtain rfl:S=o0:=E0.out
     obtain rfl:m=o1:=E1.out
     obtain rfl:x1=o2:=E2.out
     obtain rfl:ym=o3:=E3.out
     go_enter Try.func22,Try.ntmps22
     go_upto_if 12 with fail
     rw [HW.out]
     clear b16
     have b17:=HX.out.cell 17 H17.out;have b18:=HX.out.cell 18 H18.out;have b19:=HX.out.cell 19 H19.out;have b20:=HX.out.cell 20 H20.out;have b21:=HX.out.cell 21 H21.out
     have U3:=up_alloc (Below.refl _ w1) (.cells #[.int .i64 S,.int .i64 G,.int .i64 x1,.int .i64 y1] 40)
     have S3:=Bx.new w1 40 [.int .i64 S,.int .i64 G,.int .i64 x1,.int .i64 y1]
     have X3:=Lib.hid (HX.out.later (by rw [HL.out];decide) U3)
     have R3:=HR.out.up U3
     have B3:=Lib.hid (up_trans HB.out U3)
     have hlow:w.heap.size+1<w1.heap.size:=HR.out.lt
     go_wp2_with (refine wpList_load_job rfl _ rfl w.heap.size rfl cs X3.out HL.out ?_;simp only [Act.put,List.setIfInBounds_toArray,List.set_cons_succ,List.set_cons_zero])
     refine (HA.out _).mono ?_
     rintro e w2 ⟨rfl,hb⟩
     have X4:=X3.out.later (by rw [HL.out];decide) hb
     have R4:=R3.up hb
     have S4:=S3.up hb
     have B4:=Lib.hid (up_trans B3.out hb)
     clear hb b17 b18 b19 b20 b21 U3 S3 X3 R3 B3
     obtain hm:T=m:=EM.out
     have e3:=E4.out
     have b18:=X4.cell 18 H18.out;have b20:=X4.cell 20 H20.out;have b21:=X4.cell 21 H21.out
     have s0:=S4.cell 0 rfl;have s1:=S4.cell 1 rfl;have s2:=S4.cell 2 rfl;have s3:=S4.cell 3 rfl;have sf:=S4.free
     have nx:w1.heap.size≠w.heap.size:=by omega
     have nr:w1.heap.size≠w.heap.size+1:=by omega
     subst hm
     have ey:ym=y1:=e3.symm.trans e2
     subst ey
     have S5:=(S4.set 1 (.int .i64 T)).set 3 (.int .i64 ym)
     have t1:=(S4.set 1 (.int .i64 T)).cell 3 rfl;have tf:=(S4.set 1 (.int .i64 T)).free
     have b18':=(X4.far (p:=⟨w1.heap.size,1,none⟩) nx (.int .i64 T)).cell 18 H18.out
     have R5:=(R4.far (p:=⟨w1.heap.size,1,none⟩) nr (.int .i64 T)).far (p:=⟨w1.heap.size,3,none⟩) nr (.int .i64 ym)
     have BB:=Lib.hid (up_set (up_set B4.out (p:=⟨w1.heap.size,1,none⟩) (by simp only;omega) (.int .i64 T)) (p:=⟨w1.heap.size,3,none⟩) (by simp only;omega) (.int .i64 ym))
     have k0:=S5.cell 0 rfl;have k1:=S5.cell 1 rfl;have k2:=S5.cell 2 rfl;have k3:=S5.cell 3 rfl
     have r0:=R5.cell 0 rfl;have r1:=R5.cell 1 rfl;have r2:=R5.cell 2 rfl;have r3:=R5.cell 3 rfl;have rf:=R5.free
     have R6:=(((R5.set 0 (.int .i64 S)).set 1 (.int .i64 T)).set 2 (.int .i64 x1)).set 3 (.int .i64 ym)
     clear X4 S4 R4 S5 R5
     have R4:=R6
     clear R6
     have p0:=Lib.hid (R4.cell 0 rfl);have p1:=Lib.hid (R4.cell 1 rfl);have p2:=Lib.hid (R4.cell 2 rfl);have p3:=Lib.hid (R4.cell 3 rfl)
     clear R4
     go_wp2
     have q0:=p0.out;have q1:=p1.out;have q2:=p2.out;have q3:=p3.out
     refine bodyPost_ret (v:=.agg #[.int .i64 S,.int .i64 T,.int .i64 x1,.int .i64 ym]) (by simp [results,Try.results22,go_sem,q0,q1,q2,q3]) rfl ⟨rfl,?_⟩
     exact up_set (up_set (up_set (up_set BB.out (by simp only;omega) _) (by simp only;omega) _) (by simp only;omega) _) (by simp only;omega) _
  ·obtain rfl:(0:Int)=o0:=E0.out
   obtain rfl:(0:Int)=o1:=E1.out
   obtain rfl:(0:Int)=o2:=E2.out
   obtain rfl:(0:Int)=o3:=E3.out
   go_enter Try.func22,Try.ntmps22
   go_upto_if 12 with fail
   rw [HW.out]
   clear b16
   have r0:=HR.out.cell 0 rfl;have r1:=HR.out.cell 1 rfl;have r2:=HR.out.cell 2 rfl;have r3:=HR.out.cell 3 rfl;have rf:=HR.out.free
   have R4:=(((HR.out.set 0 (.int .i64 0)).set 1 (.int .i64 0)).set 2 (.int .i64 0)).set 3 (.int .i64 0)
   have BB:=HB
   have p0:=Lib.hid (R4.cell 0 rfl);have p1:=Lib.hid (R4.cell 1 rfl);have p2:=Lib.hid (R4.cell 2 rfl);have p3:=Lib.hid (R4.cell 3 rfl)
   clear R4
   go_wp2
   have q0:=p0.out;have q1:=p1.out;have q2:=p2.out;have q3:=p3.out
   refine bodyPost_ret (v:=.agg #[.int .i64 0,.int .i64 0,.int .i64 0,.int .i64 0]) (by simp [results,Try.results22,go_sem,q0,q1,q2,q3]) rfl ⟨rfl,?_⟩
   exact up_set (up_set (up_set (up_set BB.out (by simp only;omega) _) (by simp only;omega) _) (by simp only;omega) _) (by simp only;omega) _
 ·obtain rfl:(0:Int)=o0:=E0.out
  obtain rfl:(0:Int)=o1:=E1.out
  obtain rfl:(0:Int)=o2:=E2.out
  obtain rfl:(0:Int)=o3:=E3.out
  go_enter Try.func22,Try.ntmps22
  go_upto_if 12 with fail
  rw [HW.out]
  clear b16
  have r0:=HR.out.cell 0 rfl;have r1:=HR.out.cell 1 rfl;have r2:=HR.out.cell 2 rfl;have r3:=HR.out.cell 3 rfl;have rf:=HR.out.free
  have R4:=(((HR.out.set 0 (.int .i64 0)).set 1 (.int .i64 0)).set 2 (.int .i64 0)).set 3 (.int .i64 0)
  have BB:=HB
  have p0:=Lib.hid (R4.cell 0 rfl);have p1:=Lib.hid (R4.cell 1 rfl);have p2:=Lib.hid (R4.cell 2 rfl);have p3:=Lib.hid (R4.cell 3 rfl)
  clear R4
  go_wp2
  have q0:=p0.out;have q1:=p1.out;have q2:=p2.out;have q3:=p3.out
  refine bodyPost_ret (v:=.agg #[.int .i64 0,.int .i64 0,.int .i64 0,.int .i64 0]) (by simp [results,Try.results22,go_sem,q0,q1,q2,q3]) rfl ⟨rfl,?_⟩
  exact up_set (up_set (up_set (up_set BB.out (by simp only;omega) _) (by simp only;omega) _) (by simp only;omega) _) (by simp only;omega) _
theorem not3of4 {s:Int} (h:(s==4)=true):(s==3)=false:=by simp at h ⊢;omega
set_option maxRecDepth 100000 in
set_option maxHeartbeats 4000000 in
theorem refRegion_core (cs:List Value) (s W H hw hh A0 A1 A2 A3 o2 o3:Int) (u v g k:Bool) (w:World) (hL:cs.length=33) (c16:cs[16]?=some (.int .i64 s)) (c17:cs[17]?=some (.int .i64 W)) (c18:cs[18]?=some (.int .i64 H))
  (hu:(s==3)=u) (hv:(s==4)=v) (huv:v=true→u=false) (hg:decide (hw<A2)=g) (hk:decide (hh<A3)=k) (h2:(if (u&&g)=true then hw else A2)=o2) (h3:(if (v&&k)=true then hh else A3)=o3)
  (KA:∀ w1,Calls Try.prog 22 #[.agg cs.toArray] w1 fun e w'=>e=.returned (.agg #[.int .i64 A0,.int .i64 A1,.int .i64 A2,.int .i64 A3])∧Below w1.heap.size w1 w')
  (K1:∀ w1,Calls Try.prog 45 #[.int .i64 W] w1 fun e w'=>e=.returned (.int .i64 hw)∧Below w1.heap.size w1 w')
  (K2:∀ w1,Calls Try.prog 45 #[.int .i64 H] w1 fun e w'=>e=.returned (.int .i64 hh)∧Below w1.heap.size w1 w') :
  Calls Try.prog 18 #[.agg cs.toArray] w fun e w'=>e=.returned (.agg #[.int .i64 A0,.int .i64 A1,.int .i64 o2,.int .i64 o3])∧Below w.heap.size w w':=by
 have X1:=Bx.new w 29 cs
 have U1:=up_alloc (Below.refl w.heap.size w) (.cells cs.toArray 29)
 have U2:=up_alloc (Below.refl _ (w.alloc (.cells cs.toArray 29))) (.cells #[.int .i64 0,.int .i64 0,.int .i64 0,.int .i64 0] 40)
 have HX:=Lib.hid (X1.later (by rw [hL];decide) U2)
 have R1:=Bx.new (w.alloc (.cells cs.toArray 29)) 40 [.int .i64 0,.int .i64 0,.int .i64 0,.int .i64 0]
 rw [World.size_alloc] at R1
 have HR:=Lib.hid R1
 have HB:=Lib.hid (up_trans U1 U2)
 have HL:=Lib.hid hL;have HA:=Lib.hid KA;have H1:=Lib.hid K1;have H2:=Lib.hid K2;have H16:=Lib.hid c16;have H17:=Lib.hid c17;have H18:=Lib.hid c18
 have E2:=Lib.hid h2;have E3:=Lib.hid h3;have HV:=Lib.hid huv
 clear X1 U1 U2 R1 hL KA K1 K2 c16 c17 c18 h2 h3 huv
 go_enter Try.func18,Try.ntmps18
 go_wp2_with (refine wpList_load_job rfl _ rfl w.heap.size rfl cs HX.out HL.out ?_;simp only [Act.put,List.setIfInBounds_toArray,List.set_cons_succ,List.set_cons_zero])
 refine (HA.out _).mono ?_
 rintro e w2 ⟨rfl,hb⟩
 have U3:=up_alloc (Below.refl _ w2) (.cells #[.int .i64 A0,.int .i64 A1,.int .i64 A2,.int .i64 A3] 40)
 have S3:=Bx.new w2 40 [.int .i64 A0,.int .i64 A1,.int .i64 A2,.int .i64 A3]
 have X3:=(HX.out.later (by rw [HL.out];decide) hb).later (by rw [HL.out];decide) U3
 have R3:=(HR.out.up hb).up U3
 have B3:=Lib.hid (up_trans (up_trans HB.out hb) U3)
 have hlow:w.heap.size+1<w2.heap.size:=(HR.out.up hb).lt
 have nx:w2.heap.size≠w.heap.size:=by omega
 have nr:w2.heap.size≠w.heap.size+1:=by omega
 clear hb HX HR HB
 go_wp2_with fail
 obtain ⟨w3,hw3⟩:∃ w3,w2.alloc (.cells #[.int .i64 A0,.int .i64 A1,.int .i64 A2,.int .i64 A3] 40)=w3:=⟨_,rfl⟩
 rw [hw3] at S3 X3 R3 B3 ⊢
 clear hw3 U3
 have j16:=fun y:Later w3=>y.cell (X3.cell 16 H16.out);have j17:=fun y:Later w3=>y.cell (X3.cell 17 H17.out);have i2:=fun y:Later w3=>y.cell (S3.cell 2 rfl)
 cases v
 ·cases u
  ·obtain rfl:A2=o2:=E2.out
   obtain rfl:A3=o3:=E3.out
   refine later_start (w:=w3) ?_
   intro y
   refine wp_region_later (by kernel_rfl) (by kernel_rfl) ?_
   repeat (go_big_quiet_step ((go_at_call 45;with_reducible exact Later.call (H1.out _))))
   refine wpQuiet_nil ?_
   rintro _ ⟨y2,rfl⟩
   have S4:=S3.up y2.up;have X4:=X3.later (by rw [HL.out];decide) y2.up;have R4:=R3.up y2.up;have B4:=Lib.hid (up_trans B3.out y2.up)
   obtain ⟨w4,hw4⟩:∃ w4,y2.now=w4:=⟨_,rfl⟩
   rw [hw4] at S4 X4 R4 B4 ⊢
   clear hw4 j16 j17 i2 S3 X3 R3 B3 y y2
   go_wp2_with fail
   have S6:=S4
   have X6:=X4
   have R6:=R4
   have B6:=B4
   clear S4 X4 R4 B4
   obtain ⟨w6,hw6⟩:∃ w6,w6=w4:=⟨_,rfl⟩
   subst hw6
   have j16:=fun y:Later w6=>y.cell (X6.cell 16 H16.out);have j18:=fun y:Later w6=>y.cell (X6.cell 18 H18.out);have i3:=fun y:Later w6=>y.cell (S6.cell 3 rfl)
   refine later_start (w:=w6) ?_
   intro y
   refine wp_region_later (by kernel_rfl) (by kernel_rfl) ?_
   repeat (go_big_quiet_step ((go_at_call 45;with_reducible exact Later.call (H2.out _))))
   refine wpQuiet_nil ?_
   rintro _ ⟨y2,rfl⟩
   have S7:=S6.up y2.up;have X7:=X6.later (by rw [HL.out];decide) y2.up;have R7:=R6.up y2.up;have B7:=Lib.hid (up_trans B6.out y2.up)
   obtain ⟨w7,hw7⟩:∃ w7,y2.now=w7:=⟨_,rfl⟩
   rw [hw7] at S7 X7 R7 B7 ⊢
   clear hw7 j16 j18 i3 S6 X6 R6 B6 y y2
   have S9:=S7
   have R9:=R7
   have BB:=B7
   clear S7 X7 R7 B7
   have k0:=S9.cell 0 rfl;have k1:=S9.cell 1 rfl;have k2:=S9.cell 2 rfl;have k3:=S9.cell 3 rfl
   have r0:=R9.cell 0 rfl;have r1:=R9.cell 1 rfl;have r2:=R9.cell 2 rfl;have r3:=R9.cell 3 rfl;have rf:=R9.free
   have R4:=(((R9.set 0 (.int .i64 A0)).set 1 (.int .i64 A1)).set 2 (.int .i64 A2)).set 3 (.int .i64 A3)
   clear S9 R9
   have p0:=Lib.hid (R4.cell 0 rfl);have p1:=Lib.hid (R4.cell 1 rfl);have p2:=Lib.hid (R4.cell 2 rfl);have p3:=Lib.hid (R4.cell 3 rfl)
   clear R4
   go_wp2
   have q0:=p0.out;have q1:=p1.out;have q2:=p2.out;have q3:=p3.out
   refine bodyPost_ret (v:=.agg #[.int .i64 A0,.int .i64 A1,.int .i64 A2,.int .i64 A3]) (by simp [results,Try.results18,go_sem,q0,q1,q2,q3]) rfl ⟨rfl,?_⟩
   exact up_set (up_set (up_set (up_set BB.out (by simp only;omega) _) (by simp only;omega) _) (by simp only;omega) _) (by simp only;omega) _
  ·cases g
   ·obtain rfl:A2=o2:=E2.out
    obtain rfl:A3=o3:=E3.out
    refine later_start (w:=w3) ?_
    intro y
    refine wp_region_later (by kernel_rfl) (by kernel_rfl) ?_
    repeat (go_big_quiet_step ((go_at_call 45;with_reducible exact Later.call (H1.out _))))
    refine wpQuiet_nil ?_
    rintro _ ⟨y2,rfl⟩
    have S4:=S3.up y2.up;have X4:=X3.later (by rw [HL.out];decide) y2.up;have R4:=R3.up y2.up;have B4:=Lib.hid (up_trans B3.out y2.up)
    obtain ⟨w4,hw4⟩:∃ w4,y2.now=w4:=⟨_,rfl⟩
    rw [hw4] at S4 X4 R4 B4 ⊢
    clear hw4 j16 j17 i2 S3 X3 R3 B3 y y2
    go_wp2_with fail
    have S6:=S4
    have X6:=X4
    have R6:=R4
    have B6:=B4
    clear S4 X4 R4 B4
    obtain ⟨w6,hw6⟩:∃ w6,w6=w4:=⟨_,rfl⟩
    subst hw6
    have j16:=fun y:Later w6=>y.cell (X6.cell 16 H16.out);have j18:=fun y:Later w6=>y.cell (X6.cell 18 H18.out);have i3:=fun y:Later w6=>y.cell (S6.cell 3 rfl)
    refine later_start (w:=w6) ?_
    intro y
    refine wp_region_later (by kernel_rfl) (by kernel_rfl) ?_
    repeat (go_big_quiet_step ((go_at_call 45;with_reducible exact Later.call (H2.out _))))
    refine wpQuiet_nil ?_
    rintro _ ⟨y2,rfl⟩
    have S7:=S6.up y2.up;have X7:=X6.later (by rw [HL.out];decide) y2.up;have R7:=R6.up y2.up;have B7:=Lib.hid (up_trans B6.out y2.up)
    obtain ⟨w7,hw7⟩:∃ w7,y2.now=w7:=⟨_,rfl⟩
    rw [hw7] at S7 X7 R7 B7 ⊢
    clear hw7 j16 j18 i3 S6 X6 R6 B6 y y2
    have S9:=S7
    have R9:=R7
    have BB:=B7
    clear S7 X7 R7 B7
    have k0:=S9.cell 0 rfl;have k1:=S9.cell 1 rfl;have k2:=S9.cell 2 rfl;have k3:=S9.cell 3 rfl
    have r0:=R9.cell 0 rfl;have r1:=R9.cell 1 rfl;have r2:=R9.cell 2 rfl;have r3:=R9.cell 3 rfl;have rf:=R9.free
    have R4:=(((R9.set 0 (.int .i64 A0)).set 1 (.int .i64 A1)).set 2 (.int .i64 A2)).set 3 (.int .i64 A3)
    clear S9 R9
    have p0:=Lib.hid (R4.cell 0 rfl);have p1:=Lib.hid (R4.cell 1 rfl);have p2:=Lib.hid (R4.cell 2 rfl);have p3:=Lib.hid (R4.cell 3 rfl)
    clear R4
    go_wp2
    have q0:=p0.out;have q1:=p1.out;have q2:=p2.out;have q3:=p3.out
    refine bodyPost_ret (v:=.agg #[.int .i64 A0,.int .i64 A1,.int .i64 A2,.int .i64 A3]) (by simp [results,Try.results18,go_sem,q0,q1,q2,q3]) rfl ⟨rfl,?_⟩
    exact up_set (up_set (up_set (up_set BB.out (by simp only;omega) _) (by simp only;omega) _) (by simp only;omega) _) (by simp only;omega) _
   ·obtain rfl:hw=o2:=E2.out
    obtain rfl:A3=o3:=E3.out
    refine later_start (w:=w3) ?_
    intro y
    refine wp_region_later (by kernel_rfl) (by kernel_rfl) ?_
    repeat (go_big_quiet_step ((go_at_call 45;with_reducible exact Later.call (H1.out _))))
    refine wpQuiet_nil ?_
    rintro _ ⟨y2,rfl⟩
    have S4:=S3.up y2.up;have X4:=X3.later (by rw [HL.out];decide) y2.up;have R4:=R3.up y2.up;have B4:=Lib.hid (up_trans B3.out y2.up)
    obtain ⟨w4,hw4⟩:∃ w4,y2.now=w4:=⟨_,rfl⟩
    rw [hw4] at S4 X4 R4 B4 ⊢
    clear hw4 j16 j17 i2 S3 X3 R3 B3 y y2
    have b17:=X4.cell 17 H17.out
    go_wp2_with fail
    refine (H1.out _).mono ?_
    rintro e w5 ⟨rfl,hb⟩
    have S5:=S4.up hb;have X5:=X4.later (by rw [HL.out];decide) hb;have R5:=R4.up hb;have B5:=Lib.hid (up_trans B4.out hb)
    clear hb b17 S4 X4 R4 B4
    have s2:=S5.cell 2 rfl;have sf:=S5.free
    go_wp2_with fail
    have S6:=S5.set 2 (.int .i64 hw);have X6:=X5.far (p:=⟨w2.heap.size,2,none⟩) nx (.int .i64 hw);have R6:=R5.far (p:=⟨w2.heap.size,2,none⟩) nr (.int .i64 hw)
    have B6:=Lib.hid (up_set B5.out (p:=⟨w2.heap.size,2,none⟩) (by simp only;omega) (.int .i64 hw))
    obtain ⟨w6,hw6⟩:∃ w6,w5.setCell ⟨w2.heap.size,2,none⟩ (.int .i64 hw)=w6:=⟨_,rfl⟩
    rw [hw6] at S6 X6 R6 B6 ⊢
    clear hw6 S5 X5 R5 B5 s2 sf
    have j16:=fun y:Later w6=>y.cell (X6.cell 16 H16.out);have j18:=fun y:Later w6=>y.cell (X6.cell 18 H18.out);have i3:=fun y:Later w6=>y.cell (S6.cell 3 rfl)
    refine later_start (w:=w6) ?_
    intro y
    refine wp_region_later (by kernel_rfl) (by kernel_rfl) ?_
    repeat (go_big_quiet_step ((go_at_call 45;with_reducible exact Later.call (H2.out _))))
    refine wpQuiet_nil ?_
    rintro _ ⟨y2,rfl⟩
    have S7:=S6.up y2.up;have X7:=X6.later (by rw [HL.out];decide) y2.up;have R7:=R6.up y2.up;have B7:=Lib.hid (up_trans B6.out y2.up)
    obtain ⟨w7,hw7⟩:∃ w7,y2.now=w7:=⟨_,rfl⟩
    rw [hw7] at S7 X7 R7 B7 ⊢
    clear hw7 j16 j18 i3 S6 X6 R6 B6 y y2
    have S9:=S7
    have R9:=R7
    have BB:=B7
    clear S7 X7 R7 B7
    have k0:=S9.cell 0 rfl;have k1:=S9.cell 1 rfl;have k2:=S9.cell 2 rfl;have k3:=S9.cell 3 rfl
    have r0:=R9.cell 0 rfl;have r1:=R9.cell 1 rfl;have r2:=R9.cell 2 rfl;have r3:=R9.cell 3 rfl;have rf:=R9.free
    have R4:=(((R9.set 0 (.int .i64 A0)).set 1 (.int .i64 A1)).set 2 (.int .i64 hw)).set 3 (.int .i64 A3)
    clear S9 R9
    have p0:=Lib.hid (R4.cell 0 rfl);have p1:=Lib.hid (R4.cell 1 rfl);have p2:=Lib.hid (R4.cell 2 rfl);have p3:=Lib.hid (R4.cell 3 rfl)
    clear R4
    go_wp2
    have q0:=p0.out;have q1:=p1.out;have q2:=p2.out;have q3:=p3.out
    refine bodyPost_ret (v:=.agg #[.int .i64 A0,.int .i64 A1,.int .i64 hw,.int .i64 A3]) (by simp [results,Try.results18,go_sem,q0,q1,q2,q3]) rfl ⟨rfl,?_⟩
    exact up_set (up_set (up_set (up_set BB.out (by simp only;omega) _) (by simp only;omega) _) (by simp only;omega) _) (by simp only;omega) _
 ·obtain rfl:u=false:=HV.out (by trivial)
  cases k
  ·obtain rfl:A2=o2:=E2.out
   obtain rfl:A3=o3:=E3.out
   refine later_start (w:=w3) ?_
   intro y
   refine wp_region_later (by kernel_rfl) (by kernel_rfl) ?_
   repeat (go_big_quiet_step ((go_at_call 45;with_reducible exact Later.call (H1.out _))))
   refine wpQuiet_nil ?_
   rintro _ ⟨y2,rfl⟩
   have S4:=S3.up y2.up;have X4:=X3.later (by rw [HL.out];decide) y2.up;have R4:=R3.up y2.up;have B4:=Lib.hid (up_trans B3.out y2.up)
   obtain ⟨w4,hw4⟩:∃ w4,y2.now=w4:=⟨_,rfl⟩
   rw [hw4] at S4 X4 R4 B4 ⊢
   clear hw4 j16 j17 i2 S3 X3 R3 B3 y y2
   go_wp2_with fail
   have S6:=S4
   have X6:=X4
   have R6:=R4
   have B6:=B4
   clear S4 X4 R4 B4
   obtain ⟨w6,hw6⟩:∃ w6,w6=w4:=⟨_,rfl⟩
   subst hw6
   have j16:=fun y:Later w6=>y.cell (X6.cell 16 H16.out);have j18:=fun y:Later w6=>y.cell (X6.cell 18 H18.out);have i3:=fun y:Later w6=>y.cell (S6.cell 3 rfl)
   refine later_start (w:=w6) ?_
   intro y
   refine wp_region_later (by kernel_rfl) (by kernel_rfl) ?_
   repeat (go_big_quiet_step ((go_at_call 45;with_reducible exact Later.call (H2.out _))))
   refine wpQuiet_nil ?_
   rintro _ ⟨y2,rfl⟩
   have S7:=S6.up y2.up;have X7:=X6.later (by rw [HL.out];decide) y2.up;have R7:=R6.up y2.up;have B7:=Lib.hid (up_trans B6.out y2.up)
   obtain ⟨w7,hw7⟩:∃ w7,y2.now=w7:=⟨_,rfl⟩
   rw [hw7] at S7 X7 R7 B7 ⊢
   clear hw7 j16 j18 i3 S6 X6 R6 B6 y y2
   have S9:=S7
   have R9:=R7
   have BB:=B7
   clear S7 X7 R7 B7
   have k0:=S9.cell 0 rfl;have k1:=S9.cell 1 rfl;have k2:=S9.cell 2 rfl;have k3:=S9.cell 3 rfl
   have r0:=R9.cell 0 rfl;have r1:=R9.cell 1 rfl;have r2:=R9.cell 2 rfl;have r3:=R9.cell 3 rfl;have rf:=R9.free
   have R4:=(((R9.set 0 (.int .i64 A0)).set 1 (.int .i64 A1)).set 2 (.int .i64 A2)).set 3 (.int .i64 A3)
   clear S9 R9
   have p0:=Lib.hid (R4.cell 0 rfl);have p1:=Lib.hid (R4.cell 1 rfl);have p2:=Lib.hid (R4.cell 2 rfl);have p3:=Lib.hid (R4.cell 3 rfl)
   clear R4
   go_wp2
   have q0:=p0.out;have q1:=p1.out;have q2:=p2.out;have q3:=p3.out
   refine bodyPost_ret (v:=.agg #[.int .i64 A0,.int .i64 A1,.int .i64 A2,.int .i64 A3]) (by simp [results,Try.results18,go_sem,q0,q1,q2,q3]) rfl ⟨rfl,?_⟩
   exact up_set (up_set (up_set (up_set BB.out (by simp only;omega) _) (by simp only;omega) _) (by simp only;omega) _) (by simp only;omega) _
  ·obtain rfl:A2=o2:=E2.out
   obtain rfl:hh=o3:=E3.out
   refine later_start (w:=w3) ?_
   intro y
   refine wp_region_later (by kernel_rfl) (by kernel_rfl) ?_
   repeat (go_big_quiet_step ((go_at_call 45;with_reducible exact Later.call (H1.out _))))
   refine wpQuiet_nil ?_
   rintro _ ⟨y2,rfl⟩
   have S4:=S3.up y2.up;have X4:=X3.later (by rw [HL.out];decide) y2.up;have R4:=R3.up y2.up;have B4:=Lib.hid (up_trans B3.out y2.up)
   obtain ⟨w4,hw4⟩:∃ w4,y2.now=w4:=⟨_,rfl⟩
   rw [hw4] at S4 X4 R4 B4 ⊢
   clear hw4 j16 j17 i2 S3 X3 R3 B3 y y2
   go_wp2_with fail
   have S6:=S4
   have X6:=X4
   have R6:=R4
   have B6:=B4
   clear S4 X4 R4 B4
   obtain ⟨w6,hw6⟩:∃ w6,w6=w4:=⟨_,rfl⟩
   subst hw6
   have j16:=fun y:Later w6=>y.cell (X6.cell 16 H16.out);have j18:=fun y:Later w6=>y.cell (X6.cell 18 H18.out);have i3:=fun y:Later w6=>y.cell (S6.cell 3 rfl)
   refine later_start (w:=w6) ?_
   intro y
   refine wp_region_later (by kernel_rfl) (by kernel_rfl) ?_
   repeat (go_big_quiet_step ((go_at_call 45;with_reducible exact Later.call (H2.out _))))
   refine wpQuiet_nil ?_
   rintro _ ⟨y2,rfl⟩
   have S7:=S6.up y2.up;have X7:=X6.later (by rw [HL.out];decide) y2.up;have R7:=R6.up y2.up;have B7:=Lib.hid (up_trans B6.out y2.up)
   obtain ⟨w7,hw7⟩:∃ w7,y2.now=w7:=⟨_,rfl⟩
   rw [hw7] at S7 X7 R7 B7 ⊢
   clear hw7 j16 j18 i3 S6 X6 R6 B6 y y2
   have b18:=X7.cell 18 H18.out
   go_wp2_with fail
   refine (H2.out _).mono ?_
   rintro e w8 ⟨rfl,hb⟩
   have S8:=S7.up hb;have R8:=R7.up hb;have B8:=Lib.hid (up_trans B7.out hb)
   clear hb b18 S7 X7 R7 B7
   have s3:=S8.cell 3 rfl;have sf:=S8.free
   have S9:=S8.set 3 (.int .i64 hh);have R9:=R8.far (p:=⟨w2.heap.size,3,none⟩) nr (.int .i64 hh)
   have BB:=Lib.hid (up_set B8.out (p:=⟨w2.heap.size,3,none⟩) (by simp only;omega) (.int .i64 hh))
   clear S8 R8 B8
   have k0:=S9.cell 0 rfl;have k1:=S9.cell 1 rfl;have k2:=S9.cell 2 rfl;have k3:=S9.cell 3 rfl
   have r0:=R9.cell 0 rfl;have r1:=R9.cell 1 rfl;have r2:=R9.cell 2 rfl;have r3:=R9.cell 3 rfl;have rf:=R9.free
   have R4:=(((R9.set 0 (.int .i64 A0)).set 1 (.int .i64 A1)).set 2 (.int .i64 A2)).set 3 (.int .i64 hh)
   clear S9 R9
   have p0:=Lib.hid (R4.cell 0 rfl);have p1:=Lib.hid (R4.cell 1 rfl);have p2:=Lib.hid (R4.cell 2 rfl);have p3:=Lib.hid (R4.cell 3 rfl)
   clear R4
   go_wp2
   have q0:=p0.out;have q1:=p1.out;have q2:=p2.out;have q3:=p3.out
   refine bodyPost_ret (v:=.agg #[.int .i64 A0,.int .i64 A1,.int .i64 A2,.int .i64 hh]) (by simp [results,Try.results18,go_sem,q0,q1,q2,q3]) rfl ⟨rfl,?_⟩
   exact up_set (up_set (up_set (up_set BB.out (by simp only;omega) _) (by simp only;omega) _) (by simp only;omega) _) (by simp only;omega) _
theorem sty_if (s:Int):(decide (s<1) || decide (4<s))=!styB s:=by
 unfold styB
 rw [Bool.eq_iff_iff]
 simp
theorem refFlip_any (cs:List Value) (n:Nat→Int) (w:World) (h:NumC cs n) (hL:cs.length=33) :
  Calls Try.prog 42 #[.agg cs.toArray] w fun e w'=>e=.returned (.agg #[.int .i64 (flipS n).1,.int .i64 (flipS n).2.1,.int .i64 (flipS n).2.2])∧Below w.heap.size w w':=by
 refine refFlip_core cs (n 11) (n 12) (n 13) _ _ _ _ _ (acrB (n 11)) w hL (h 11 (by decide)) (h 12 (by decide)) (h 13 (by decide)) rfl rfl ?_ ?_ ?_ (fun w1=>refAcross_any cs (n 11) w1 (h 11 (by decide)))
 all_goals
  rw [sty_if]
  unfold flipS
  cases styB (n 11)<;>cases acrB (n 11)<;>rfl
theorem refArea_any (cs:List Value) (n:Nat→Int) (w:World) (h:NumC cs n) (hL:cs.length=33) :
  Calls Try.prog 22 #[.agg cs.toArray] w fun e w'=>e=.returned (.agg #[.int .i64 (areaS n).1,.int .i64 (areaS n).2.1,.int .i64 (areaS n).2.2.1,.int .i64 (areaS n).2.2.2])∧Below w.heap.size w w':=by
 have hm:(if decide (n 15<n 16)=true then n 16 else n 15)=max (n 15) (n 16):=by
  simp only [decide_eq_true_eq]
  split<;>omega
 refine refArea_core cs (n 11) (n 12) (n 13) (n 14) (n 15) (n 16) _ _ _ _ _ _ _ _ _ _ (acrB (n 11)) _ w hL (h 11 (by decide)) (h 12 (by decide)) (h 13 (by decide)) (h 14 (by decide)) (h 15 (by decide)) (h 16 (by decide)) rfl rfl rfl rfl rfl hm rfl ?_ ?_ ?_ ?_ (fun w1=>refAcross_any cs (n 11) w1 (h 11 (by decide)))
 all_goals
  rw [sty_if]
  unfold areaS lowS topS
  cases styB (n 11)<;>cases acrB (n 11)<;>rfl
theorem refRegion_any (cs:List Value) (n:Nat→Int) (w:World) (h:NumC cs n) (hL:cs.length=33) :
  Calls Try.prog 18 #[.agg cs.toArray] w fun e w'=>e=.returned (.agg #[.int .i64 (regionS n).1,.int .i64 (regionS n).2.1,.int .i64 (regionS n).2.2.1,.int .i64 (regionS n).2.2.2])∧Below w.heap.size w w':=by
 refine refRegion_core cs (n 11) (n 12) (n 13) (n 12 / 2) (n 13 / 2) (areaS n).1 (areaS n).2.1 (areaS n).2.2.1 (areaS n).2.2.2 _ _ _ _ _ _ w hL (h 11 (by decide)) (h 12 (by decide)) (h 13 (by decide)) rfl rfl not3of4 rfl rfl ?_ ?_ (fun w1=>refArea_any cs n w1 h hL) (fun w1=>refHalf20_any _ w1) (fun w1=>refHalf20_any _ w1)
 ·unfold regionS
  simp only [Bool.and_eq_true,beq_iff_eq,decide_eq_true_eq]
  by_cases h3:n 11=3
  ·rw [if_pos h3]
   split<;>omega
  ·rw [if_neg h3,if_neg (fun e=>h3 e.1)]
 ·unfold regionS
  simp only [Bool.and_eq_true,beq_iff_eq,decide_eq_true_eq]
  by_cases h3:n 11=4
  ·rw [if_pos h3]
   split<;>omega
  ·rw [if_neg h3,if_neg (fun e=>h3 e.1)]
theorem run_eq3 (a b c:Int) (w:World):(binOp .eql 35 (.agg #[.int .i64 a,.int .i64 b,.int .i64 c]) (.agg #[.int .i64 a,.int .i64 b,.int .i64 c])).run Try.prog w=.ok (.bool true) w:=by simp [go_sem]
theorem run_ne4 (a b c d:Int) (w:World):(binOp .neq 40 (.agg #[.int .i64 a,.int .i64 b,.int .i64 c,.int .i64 d]) (.agg #[.int .i64 a,.int .i64 b,.int .i64 c,.int .i64 d])).run Try.prog w=.ok (.bool false) w:=by simp [go_sem]
def StyFlip:Prop:=∀ (cs:List Value) (j:Jb) (w:World),JobA w cs j →
 Calls Try.prog 37 #[.agg cs.toArray] w fun e w'=>e=.returned (plV (flipS j.n))∧Below w.heap.size w w'
def StyArea:Prop:=∀ (cs:List Value) (j:Jb) (w:World),JobA w cs j →
 Calls Try.prog 60 #[.agg cs.toArray] w fun e w'=>e=.returned (rcV (areaS j.n))∧Below w.heap.size w w'
def StyRegion:Prop:=∀ (cs:List Value) (j:Jb) (w:World),JobA w cs j→(∀ i,I64 (j.n i)) →
 Calls Try.prog 33 #[.agg cs.toArray] w fun e w'=>e=.returned (rcV (regionS j.n))∧Below w.heap.size w w'
theorem keep_one {w1 w3:World} {B:Nat} (h:∀ p:Addr,p.block≠B→∀ v,w1.cell? p=some v→w3.cell? p=some v) (o:Nat) (z:Value):∀ p:Addr,p.block≠B→∀ v,w1.cell? p=some v→(w3.setCell ⟨B,o,none⟩ z).cell? p=some v :=
 fun p hp v hv=>keep_sets w3 B o [z] p hp v (h p hp v hv)
def thenP (a b:Int×Int×Int):Int×Int×Int:=(thenT a.1 b.1,(pdo b.1 b.2.1 b.2.2 a.2.1 a.2.2).1,(pdo b.1 b.2.1 b.2.2 a.2.1 a.2.2).2)
def boxOf (a:Int×Int×Int) (x0 y0 x1 y1:Int):Int×Int×Int×Int :=
  (min (pdo a.1 a.2.1 a.2.2 x0 y0).1 (pdo a.1 a.2.1 a.2.2 x1 y1).1,min (pdo a.1 a.2.1 a.2.2 x0 y0).2 (pdo a.1 a.2.1 a.2.2 x1 y1).2,
   max (pdo a.1 a.2.1 a.2.2 x0 y0).1 (pdo a.1 a.2.1 a.2.2 x1 y1).1,max (pdo a.1 a.2.1 a.2.2 x0 y0).2 (pdo a.1 a.2.1 a.2.2 x1 y1).2)
end Go.Proofs.Ytabinmabggnhbaa
namespace Go.Proofs.Ytabinmabggnhbaa
theorem first_all {n:Nat→Int} (h:firstJ n<0) (i:Nat) (hi:i<28):lowJ i≤n i∧n i≤topJ i:=by
 unfold firstJ at h
 split at h
 ·omega
 next hf =>
  have:=List.find?_eq_none.1 hf i (List.mem_range.2 hi)
  simpa [okJ] using this
end Go.Proofs.Ytabinmabggnhbaa
namespace Go.Proofs.Ytabinmabggnhbaa
open Go.RowKit
def mayA (n:Nat→Int) (c r:Int):Bool:=decide (firstJ n<0)&&decide (0<panM c r)
def copA (n:Nat→Int):Int:=if n 10=4 then 2 else 1
def blkW (n:Nat→Int) (c:Int):Int:=w64 (sizW n*c)
def blkH (n:Nat→Int) (r:Int):Int:=w64 (w64 (sizH n*r)*copA n)
def turnedA (n:Nat→Int):Bool:=(n 20).tmod 2==1
def outW (n:Nat→Int) (c r:Int):Int:=if turnedA n=true then blkH n r else blkW n c
def outH (n:Nat→Int) (c r:Int):Int:=if turnedA n=true then blkW n c else blkH n r
def roomX (n:Nat→Int):Int:=w64 ((regionS n).2.2.1-(regionS n).1)
def roomY (n:Nat→Int):Int:=w64 ((regionS n).2.2.2-(regionS n).2.1)
def fitsA (n:Nat→Int) (c r:Int):Bool:=decide (outW n c r≤roomX n)&&decide (outH n c r≤roomY n)
def atX (n:Nat→Int) (c r:Int):Int:=w64 ((regionS n).1+w64 (roomX n-outW n c r) / 2)
def atY (n:Nat→Int) (c r:Int):Int:=w64 ((regionS n).2.1+w64 (roomY n-outH n c r) / 2)
def atA (n:Nat→Int) (c r:Int):Int×Int×Int :=
 (n 20,if n 20=1∨n 20=2 then w64 (atX n c r+outW n c r) else atX n c r,if n 20=2∨n 20=3 then w64 (atY n c r+outH n c r) else atY n c r)
def backA (n:Nat→Int) (c r:Int):Int×Int×Int:=thenP (atA n c r) (flipS n)
def blkOf (n:Nat→Int) (c r:Int) (a:Int×Int×Int):Int×Int×Int×Int:=boxOf a 0 0 (w64 (0+blkW n c)) (w64 (0+blkH n r))
def blocksA (n:Nat→Int) (c r:Int) (side:Int):List (Int×Int×Int×Int) :=
 if 3≤n 11 then [blkOf n c r (atA n c r),blkOf n c r (backA n c r)] else [blkOf n c r (if side=2 then backA n c r else atA n c r)]
structure JFr (w w':World) (cs:List Value) (c r:Int) (sv:Value):Prop where
 x:Bx w' w.heap.size cs
 s:Bx w' (w.heap.size+1) [.int .i64 c,.int .i64 r,sv]
 b:Below w.heap.size w w'
theorem JFr.up {w w' w'':World} {cs:List Value} {c r:Int} {sv:Value} (h:JFr w w' cs c r sv) (hl:cs.length=33) (hb:Below w'.heap.size w' w''):JFr w w'' cs c r sv :=
 ⟨h.x.later (by rw [hl];decide) hb,h.s.up hb,up_trans h.b hb⟩
theorem JFr.new (w:World) {cs:List Value} (hl:cs.length=33) (c r:Int) (sv:Value) :
  JFr w ((w.alloc (.cells cs.toArray 29)).alloc (.cells #[.int .i64 c,.int .i64 r,sv] 26)) cs c r sv:=by
 have U1:=up_alloc (Below.refl w.heap.size w) (.cells cs.toArray 29)
 have U2:=up_alloc (Below.refl _ (w.alloc (.cells cs.toArray 29))) (.cells #[.int .i64 c,.int .i64 r,sv] 26)
 have S:=Bx.new (w.alloc (.cells cs.toArray 29)) 26 [.int .i64 c,.int .i64 r,sv]
 simp only [World.size_alloc] at S
 exact ⟨(Bx.new w 29 cs).later (by rw [hl];decide) U2,S,up_trans U1 U2⟩
theorem Bx.under {w w':World} {n B:Nat} {vs:List Value} (h:Bx w B vs) (hB:B<n) (hb:Below n w w'):Bx w' B vs :=
 ⟨fun j v hj=>(hb.cell (p:=⟨B,j,none⟩) hB).trans (h.1 j v hj),fun j=>(hb.frozen (p:=⟨B,j,none⟩) hB).trans (h.2 j)⟩
theorem JFr.under {w w' w'':World} {cs:List Value} {c r:Int} {sv:Value} (h:JFr w w' cs c r sv) (hb:Below (w.heap.size+1+1) w' w''):JFr w w'' cs c r sv :=
 ⟨h.x.under (by omega) hb,h.s.under (by omega) hb,h.b.trans (hb.mono (by omega))⟩
theorem enc_nums (n:Nat→Int) {k:Nat} (hk:k<28):(enc (numsL n))[k]?=some (.int .i64 (n k)):=by
 unfold enc
 rw [List.getElem?_map,numsL_at n hk];rfl
theorem enc_from {k:Nat} (hk:k<28):(enc fromL)[k]?=some (.int .i64 (lowJ k)):=by
 unfold enc
 rw [List.getElem?_map,low_at hk];rfl
theorem enc_to {k:Nat} (hk:k<28):(enc toL)[k]?=some (.int .i64 (topJ k)):=by
 unfold enc
 rw [List.getElem?_map,top_at hk];rfl
def RefFirstRel (w:World) (n:Nat→Int) (i:Value) (wr:World):Prop:=∃ k:Nat,k≤28∧i=.int .i64 (k:Int)∧Hid (∀ j,j<k→okJ n j=true)∧∃ u:Later w,wr=u.now
set_option maxHeartbeats 1000000 in
theorem refFirst_any (cs:List Value) (n:Nat→Int) (w:World) (hl:cs.length=33) (hv:∀ k,k<28→cs[cellJ k]?=some (.int .i64 (n k))) :
  Calls Try.prog 30 #[.agg cs.toArray] w fun e w'=>e=.returned (.int .i64 (firstJ n))∧Below w.heap.size w w':=by
 have HB:=Lib.hid (up_alloc (Below.refl w.heap.size w) (.cells cs.toArray 29))
 have HX:=Lib.hid (Bx.new w 29 cs)
 have HL:=Lib.hid hl
 have HA:=Lib.hid (fun w1=>refAll_any cs n w1 hv)
 have HF:=Lib.hid (fun (k:Nat) (hk:k<28) (h:∀ j,j<k→okJ n j=true) (h0:okJ n k=false)=>firstJ_at hk h h0)
 have HZ:=Lib.hid (fun h=>firstJ_none (n:=n) h)
 generalize firstJ n=F at *
 clear hv hl
 go_enter Try.func30,Try.ntmps30
 go_wp2_with (refine wpList_load_job rfl _ rfl w.heap.size rfl cs HX.out HL.out ?_;simp only [Act.put,List.setIfInBounds_toArray,List.set_cons_succ,List.set_cons_zero])
 refine (HA.out _).mono ?_
 rintro e w1 ⟨g1,rfl,-,L1,hb⟩
 have HB1:=Lib.hid (up_trans HB.out hb)
 clear hb
 go_wp2_with fail
 refine (refFrom_any _).mono ?_
 rintro e w2 ⟨g2,rfl,-,L2,hb⟩
 have HB2:=Lib.hid (up_trans HB1.out hb)
 have M1:=Bx.up L1 hb
 clear hb L1
 go_wp2_with fail
 refine (refTo_any _).mono ?_
 rintro e w3 ⟨g3,rfl,-,L3,hb⟩
 have HB3:=Lib.hid (up_trans HB2.out hb)
 have N1:=Lib.hid (Bx.up M1 hb)
 have N2:=Lib.hid (Bx.up L2 hb)
 have N3:=Lib.hid L3
 clear hb M1 L2 L3
 go_wp2
 go_loopw [6] (fun i wr=>RefFirstRel w3 n i wr) (fun i _=>28-(intOf i).toNat)
 case atStart=>exact ⟨0,by omega,by go_num,Lib.hid (fun j hj=>absurd hj (Nat.not_lt_zero _)),⟨w3,Below.refl _ _⟩,rfl⟩
 case round =>
  obtain ⟨k,hk,rfl,HA,u,rfl⟩:=hrel
  by_cases hlt:k<28
  ·have c1:=fun u:Later w3=>u.cell (N1.out.cell k (enc_nums n hlt))
   have c2:=fun u:Later w3=>u.cell (N2.out.cell k (enc_from hlt))
   have c3:=fun u:Later w3=>u.cell (N3.out.cell k (enc_to hlt))
   have z0:(0:Int)≤(k:Int):=by omega
   have z1:(k:Int)<28:=by omega
   have HOk:okJ n k=(decide (lowJ k≤n k)&&decide (n k≤topJ k)):=rfl
   obtain ⟨v,hvv⟩:∃ v,n k=v:=⟨_,rfl⟩
   obtain ⟨lo,hlo⟩:∃ v,lowJ k=v:=⟨_,rfl⟩
   obtain ⟨hi,hhi⟩:∃ v,topJ k=v:=⟨_,rfl⟩
   rw [hvv,hlo,hhi] at HOk
   rw [hvv] at c1
   rw [hlo] at c2
   rw [hhi] at c3
   have HO:=Lib.hid HOk
   clear HOk hvv hlo hhi
   go_wp2_with fail
   by_cases h1:v<lo
   ·have q1:decide (v<lo)=true:=decide_eq_true h1
    refine wp_region_later (by kernel_rfl) (by kernel_rfl) ?_
    repeat (go_big_quiet_step (fail))
    refine wpQuiet_nil ?_
    rintro _ ⟨u2,rfl⟩
    clear c1 c2 c3
    go_wp2
    go_ret
    exact ⟨by rw [HF.out k hlt HA.out (by rw [HO.out,decide_eq_false (by omega)];rfl)];rfl,up_trans HB3.out u2.up⟩
   ·have q1:decide (v<lo)=false:=decide_eq_false h1
    by_cases h2:hi<v
    ·have q2:decide (hi<v)=true:=decide_eq_true h2
     refine wp_region_later (by kernel_rfl) (by kernel_rfl) ?_
     repeat (go_big_quiet_step (fail))
     refine wpQuiet_nil ?_
     rintro _ ⟨u2,rfl⟩
     clear c1 c2 c3
     go_wp2
     go_ret
     exact ⟨by rw [HF.out k hlt HA.out (by rw [HO.out,decide_eq_false (show ¬ v≤hi by omega),Bool.and_false])];rfl,up_trans HB3.out u2.up⟩
    ·have q2:decide (hi<v)=false:=decide_eq_false h2
     refine wp_region_later (by kernel_rfl) (by kernel_rfl) ?_
     repeat (go_big_quiet_step (fail))
     refine wpQuiet_nil ?_
     rintro _ ⟨u2,rfl⟩
     clear c1 c2 c3
     have HA2:=Lib.hid (okJ_snoc HA.out (by rw [HO.out,decide_eq_true (show lo≤v by omega),decide_eq_true (show v≤hi by omega)];rfl))
     go_wp2
     go_roundw
     case rel=>exact ⟨k+1,by omega,by go_num,HA2,u2,rfl⟩
     case measure=>simp [intOf];omega
  ·have hk2:k=28:=by omega
   subst hk2
   go_wp2
   go_ret
   exact ⟨by rw [HZ.out HA.out];rfl,up_trans HB3.out u.up⟩
structure Rc where
 x0:Int
 y0:Int
 x1:Int
 y1:Int
def emp4 (x0 y0 x1 y1:Int):Bool:=decide (x1≤x0) || decide (y1≤y0)
def oz4 (x0 y0 x1 y1:Int):Rc:=if emp4 x0 y0 x1 y1=true then ⟨0,0,0,0⟩ else ⟨x0,y0,x1,y1⟩
def meetR (a0 a1 a2 a3 b0 b1 b2 b3:Int):Rc:=oz4 (max a0 b0) (max a1 b1) (min a2 b2) (min a3 b3)
theorem ret_boolB {b c:Bool} (h:b=c):Ending.returned (.bool b)=.returned (.bool c):=by rw [h]
theorem refEmpty_any (x0 y0 x1 y1:Int) (w:World) :
  Calls Try.prog 20 #[.agg #[.int .i64 x0,.int .i64 y0,.int .i64 x1,.int .i64 y1]] w fun e w'=>e=.returned (.bool (emp4 x0 y0 x1 y1))∧w'=w.alloc (.cells #[.int .i64 x0,.int .i64 y0,.int .i64 x1,.int .i64 y1] 40):=by
 by_cases h:x1≤x0
 all_goals
  go_enter Try.func20,Try.ntmps20
  go_wp2
  go_ret
  exact ⟨ret_boolB (by simp [emp4];try omega),rfl⟩
theorem oz4_yes {x0 y0 x1 y1:Int} (h:emp4 x0 y0 x1 y1=true):oz4 x0 y0 x1 y1=⟨0,0,0,0⟩:=by unfold oz4;rw [if_pos h]
theorem oz4_no {x0 y0 x1 y1:Int} (h:emp4 x0 y0 x1 y1=false):oz4 x0 y0 x1 y1=⟨x0,y0,x1,y1⟩:=by unfold oz4;rw [if_neg (by rw [h];decide)]
set_option maxHeartbeats 1000000 in
set_option maxRecDepth 100000 in
theorem refMeet_any (a0 a1 a2 a3 b0 b1 b2 b3:Int) (w:World) :
  Calls Try.prog 21 #[.agg #[.int .i64 a0,.int .i64 a1,.int .i64 a2,.int .i64 a3],.agg #[.int .i64 b0,.int .i64 b1,.int .i64 b2,.int .i64 b3]] w fun e w'=>e=.returned (.agg #[.int .i64 (meetR a0 a1 a2 a3 b0 b1 b2 b3).x0,.int .i64 (meetR a0 a1 a2 a3 b0 b1 b2 b3).y0,.int .i64 (meetR a0 a1 a2 a3 b0 b1 b2 b3).x1,.int .i64 (meetR a0 a1 a2 a3 b0 b1 b2 b3).y1])∧Below w.heap.size w w':=by
 obtain ⟨r,hr⟩:∃ r,meetR a0 a1 a2 a3 b0 b1 b2 b3=r:=⟨_,rfl⟩
 rw [hr]
 unfold meetR at hr
 have K0:=fun w=>high_any a0 b0 w
 have K1:=fun w=>high_any a1 b1 w
 have K2:=fun w=>low_any a2 b2 w
 have K3:=fun w=>low_any a3 b3 w
 generalize max a0 b0=p0 at *
 generalize max a1 b1=p1 at *
 generalize min a2 b2=p2 at *
 generalize min a3 b3=p3 at *
 have HK0:=Lib.hid K0;have HK1:=Lib.hid K1;have HK2:=Lib.hid K2;have HK3:=Lib.hid K3
 clear K0 K1 K2 K3
 have K:=fun w=>refEmpty_any p0 p1 p2 p3 w
 have y:=@oz4_yes p0 p1 p2 p3
 have n:=@oz4_no p0 p1 p2 p3
 rw [hr] at y n
 clear hr
 generalize emp4 p0 p1 p2 p3=E at *
 have HK:=Lib.hid K;have HY:=Lib.hid y;have HN:=Lib.hid n
 clear K y n
 go_enter Try.func21,Try.ntmps21
 go_wp2_with fail
 go_region_held3 (fun w'=>w'.cell? ⟨w.heap.size,0,none⟩=some (.int .i64 a0)∧w'.cell? ⟨w.heap.size,1,none⟩=some (.int .i64 a1)∧w'.cell? ⟨w.heap.size,2,none⟩=some (.int .i64 a2)∧w'.cell? ⟨w.heap.size,3,none⟩=some (.int .i64 a3)∧w'.cell? ⟨w.heap.size+1,0,none⟩=some (.int .i64 b0)∧w'.cell? ⟨w.heap.size+1,1,none⟩=some (.int .i64 b1)∧w'.cell? ⟨w.heap.size+1,2,none⟩=some (.int .i64 b2)∧w'.cell? ⟨w.heap.size+1,3,none⟩=some (.int .i64 b3))
  (simp [go_sem])
  (first
   | (go_at_call 46;first | ((with_reducible refine (HK0.out _).mono ?_);rintro e w' ⟨rfl,rfl⟩) | ((with_reducible refine (HK1.out _).mono ?_);rintro e w' ⟨rfl,rfl⟩))
   | (go_at_call 47;first | ((with_reducible refine (HK2.out _).mono ?_);rintro e w' ⟨rfl,rfl⟩) | ((with_reducible refine (HK3.out _).mono ?_);rintro e w' ⟨rfl,rfl⟩)))
 all_goals
  cases E
  ·obtain rfl:=HN.out rfl
   as_aux_lemma =>
    go_wp2_with (go_at_call 20;refine (HK.out _).mono ?_;rintro e w' ⟨rfl,rfl⟩)
    refine bodyPost_ret (v:=.agg #[.int .i64 p0,.int .i64 p1,.int .i64 p2,.int .i64 p3]) (by simp [results,Try.results21,go_sem]) rfl ⟨rfl,?_⟩
    repeat (first | exact Below.refl _ _ | apply up_drew | apply up_alloc | (refine up_set ?_ (by simp;omega) _))
  ·obtain rfl:=HY.out rfl
   as_aux_lemma =>
    go_wp2_with (go_at_call 20;refine (HK.out _).mono ?_;rintro e w' ⟨rfl,rfl⟩)
    refine bodyPost_ret (v:=.agg #[.int .i64 0,.int .i64 0,.int .i64 0,.int .i64 0]) (by simp [results,Try.results21,go_sem]) rfl ⟨rfl,?_⟩
    repeat (first | exact Below.refl _ _ | apply up_drew | apply up_alloc | (refine up_set ?_ (by simp;omega) _))
def withinR (a0 a1 a2 a3 b0 b1 b2 b3:Int):Bool:=emp4 a0 a1 a2 a3 || (decide (b0≤a0)&&decide (a2≤b2)&&decide (b1≤a1)&&decide (a3≤b3))
theorem refEmpty_b (x0 y0 x1 y1:Int) (w:World) :
  Calls Try.prog 20 #[.agg #[.int .i64 x0,.int .i64 y0,.int .i64 x1,.int .i64 y1]] w fun e w'=>e=.returned (.bool (emp4 x0 y0 x1 y1))∧Below w.heap.size w w' :=
 (refEmpty_any x0 y0 x1 y1 w).mono fun _ _ ⟨he,hw⟩=>⟨he,by rw [hw];exact up_alloc (Below.refl _ _) _⟩
theorem up_drewNb {a w:World} (h:Below a.heap.size a w) (n:Nat):Below a.heap.size a (w.drewN n):=by
 induction n with
 | zero=>exact h
 | succ n ih=>exact up_drew ih
def sum64 (a b:Int):Int:=IntKind.i64.wrap (a+b)
def dif64 (a b:Int):Int:=IntKind.i64.wrap (a-b)
theorem boxOf_any (x y v h:Int) (w:World) :
  Calls Try.prog 55 #[.int .i64 x,.int .i64 y,.int .i64 v,.int .i64 h] w fun e w'=>e=.returned (.agg #[.int .i64 x,.int .i64 y,.int .i64 (sum64 x v),.int .i64 (sum64 y h)])∧Below w.heap.size w w':=by
 obtain ⟨p,hp⟩:∃ p,IntKind.i64.wrap (x+v)=p:=⟨_,rfl⟩
 obtain ⟨q,hq⟩:∃ q,IntKind.i64.wrap (y+h)=q:=⟨_,rfl⟩
 unfold sum64
 rw [hp,hq]
 go_enter Try.func55,Try.ntmps55
 go_wp2
 refine bodyPost_ret (v:=.agg #[.int .i64 x,.int .i64 y,.int .i64 p,.int .i64 q]) (by simp [results,Try.results55,go_sem]) rfl ⟨rfl,?_⟩
 repeat (first | exact Below.refl _ _ | apply up_alloc | (refine up_set ?_ (by simp) _))
theorem refRectOf_any (x y v h:Int) (w:World) :
  Calls Try.prog 43 #[.int .i64 x,.int .i64 y,.int .i64 v,.int .i64 h] w fun e w'=>e=.returned (.agg #[.int .i64 x,.int .i64 y,.int .i64 (sum64 x v),.int .i64 (sum64 y h)])∧Below w.heap.size w w':=by
 obtain ⟨p,hp⟩:∃ p,IntKind.i64.wrap (x+v)=p:=⟨_,rfl⟩
 obtain ⟨q,hq⟩:∃ q,IntKind.i64.wrap (y+h)=q:=⟨_,rfl⟩
 unfold sum64
 rw [hp,hq]
 go_enter Try.func43,Try.ntmps43
 go_wp2
 refine bodyPost_ret (v:=.agg #[.int .i64 x,.int .i64 y,.int .i64 p,.int .i64 q]) (by simp [results,Try.results43,go_sem]) rfl ⟨rfl,?_⟩
 repeat (first | exact Below.refl _ _ | apply up_alloc | (refine up_set ?_ (by simp) _))
theorem boxSize_any (a0 a1 a2 a3:Int) (w:World) :
  Calls Try.prog 26 #[.agg #[.int .i64 a0,.int .i64 a1,.int .i64 a2,.int .i64 a3]] w fun e w'=>e=.returned (.tuple #[.int .i64 (dif64 a2 a0),.int .i64 (dif64 a3 a1)])∧Below w.heap.size w w':=by
 obtain ⟨p0,h0⟩:∃ p,IntKind.i64.wrap (a2-a0)=p:=⟨_,rfl⟩
 obtain ⟨p1,h1⟩:∃ p,IntKind.i64.wrap (a3-a1)=p:=⟨_,rfl⟩
 unfold dif64
 rw [h0,h1]
 go_enter Try.func26,Try.ntmps26
 go_wp2_with fail
 go_quiet (fail)
 go_wp2
 go_ret2
 refine ⟨rfl,?_⟩
 repeat (first | exact Below.refl _ _ | apply up_drewNb | apply up_drew | apply up_alloc | (refine up_set ?_ (by simp) _))
set_option maxRecDepth 100000 in
set_option maxHeartbeats 1000000 in
theorem refBlock_core (cs:List Value) (c r b W H k t1 t2 t3:Int) (sa:Option Addr) (sn sc:Nat) (u:Bool) (w:World) (hL:cs.length=33) (c11:cs[11]?=some (.int .i64 b)) (hu:(b==4)=u) (hk:(if u=true then 2 else 1)=k)
  (e1:IntKind.i64.wrap (W*c)=t1) (e2:IntKind.i64.wrap (H*r)=t2) (e3:IntKind.i64.wrap (t2*k)=t3)
  (KS:∀ w1,Calls Try.prog 68 #[.agg cs.toArray] w1 fun e w'=>e=.returned (.tuple #[.int .i64 W,.int .i64 H])∧Below w1.heap.size w1 w') :
  Calls Try.prog 39 #[.agg cs.toArray,.agg #[.int .i64 c,.int .i64 r,.slice sa sn sc]] w fun e w'=>e=.returned (.tuple #[.int .i64 t1,.int .i64 t3])∧Below w.heap.size w w':=by
 have F0:=Lib.hid (JFr.new w hL c r (.slice sa sn sc))
 have HL:=Lib.hid hL;have HS:=Lib.hid KS;have H11:=Lib.hid c11
 clear hL KS c11
 go_enter Try.func39,Try.ntmps39
 go_wp2_with (refine wpList_load_job rfl _ rfl w.heap.size rfl cs F0.out.x HL.out ?_;simp only [Act.put,List.setIfInBounds_toArray,List.set_cons_succ,List.set_cons_zero])
 refine (HS.out _).mono ?_
 rintro e w1 ⟨rfl,hb⟩
 have F1:=F0.out.up HL.out hb
 have b11:=F1.x.cell 11 H11.out
 have j0:=fun y:Later w1=>y.cell (F1.s.cell 0 rfl);have j1:=fun y:Later w1=>y.cell (F1.s.cell 1 rfl)
 have B1:=Lib.hid F1.b
 clear hb F0 F1
 cases u
 ·obtain rfl:1=k:=hk
  have e4:=e3
  rw [Int.mul_one] at e4
  go_wp2_with fail
  refine later_start (w:=w1) ?_
  intro y
  refine wp_region_later (by kernel_rfl) (by kernel_rfl) ?_
  repeat (go_big_quiet_step (fail))
  refine wpQuiet_nil ?_
  rintro _ ⟨y2,rfl⟩
  have BB:=Lib.hid (up_trans B1.out y2.up)
  clear j0 j1
  go_wp2
  go_ret2
  exact ⟨rfl,BB.out⟩
 ·obtain rfl:2=k:=hk
  go_wp2_with fail
  refine later_start (w:=w1) ?_
  intro y
  refine wp_region_later (by kernel_rfl) (by kernel_rfl) ?_
  repeat (go_big_quiet_step (fail))
  refine wpQuiet_nil ?_
  rintro _ ⟨y2,rfl⟩
  have BB:=Lib.hid (up_trans B1.out y2.up)
  clear j0 j1
  go_wp2
  go_ret2
  exact ⟨rfl,BB.out⟩
theorem refBlock_any (cs:List Value) (n:Nat→Int) (c r:Int) (sa:Option Addr) (sn sc:Nat) (w:World) (h:NumC cs n) (hL:cs.length=33) :
  Calls Try.prog 39 #[.agg cs.toArray,.agg #[.int .i64 c,.int .i64 r,.slice sa sn sc]] w fun e w'=>e=.returned (.tuple #[.int .i64 (blkW n c),.int .i64 (blkH n r)])∧Below w.heap.size w w':=by
 refine refBlock_core cs c r (n 10) (sizW n) (sizH n) (copA n) _ _ _ sa sn sc _ w hL (h 10 (by decide)) rfl ?_ rfl rfl rfl (fun w1=>refSize_any cs n w1 h)
 unfold copA
 simp only [beq_iff_eq]
set_option maxRecDepth 100000 in
set_option maxHeartbeats 1000000 in
theorem refOuter_core (cs:List Value) (c r q m bw bh o0 o1:Int) (sa:Option Addr) (sn sc:Nat) (u:Bool) (w:World) (hL:cs.length=33) (c25:cs[25]?=some (.int .i64 q)) (hm:q.tmod 2=m) (hu:(m==1)=u) (h0:(if u=true then bh else bw)=o0) (h1:(if u=true then bw else bh)=o1)
  (KB:∀ w1,Calls Try.prog 39 #[.agg cs.toArray,.agg #[.int .i64 c,.int .i64 r,.slice sa sn sc]] w1 fun e w'=>e=.returned (.tuple #[.int .i64 bw,.int .i64 bh])∧Below w1.heap.size w1 w') :
  Calls Try.prog 13 #[.agg cs.toArray,.agg #[.int .i64 c,.int .i64 r,.slice sa sn sc]] w fun e w'=>e=.returned (.tuple #[.int .i64 o0,.int .i64 o1])∧Below w.heap.size w w':=by
 have F0:=Lib.hid (JFr.new w hL c r (.slice sa sn sc))
 have s0:=F0.out.s.cell 0 rfl;have s1:=F0.out.s.cell 1 rfl;have s2:=F0.out.s.cell 2 rfl
 have HL:=Lib.hid hL;have HB:=Lib.hid KB;have H25:=Lib.hid c25;have E0:=Lib.hid h0;have E1:=Lib.hid h1
 clear hL KB c25 h0 h1
 go_enter Try.func13,Try.ntmps13
 go_wp2_with (refine wpList_load_job rfl _ rfl w.heap.size rfl cs F0.out.x HL.out ?_;simp only [Act.put,List.setIfInBounds_toArray,List.set_cons_succ,List.set_cons_zero])
 refine (HB.out _).mono ?_
 rintro e w1 ⟨rfl,hb⟩
 have F1:=F0.out.up HL.out hb
 have b25:=F1.x.cell 25 H25.out
 have B1:=Lib.hid F1.b
 clear hb F0 F1 s0 s1 s2
 cases u
 ·obtain rfl:bw=o0:=E0.out
  obtain rfl:bh=o1:=E1.out
  go_wp2
  go_ret2
  exact ⟨rfl,B1.out⟩
 ·obtain rfl:bh=o0:=E0.out
  obtain rfl:bw=o1:=E1.out
  go_wp2
  go_ret2
  exact ⟨rfl,B1.out⟩
theorem refOuter_any (cs:List Value) (n:Nat→Int) (c r:Int) (sa:Option Addr) (sn sc:Nat) (w:World) (h:NumC cs n) (hL:cs.length=33) :
  Calls Try.prog 13 #[.agg cs.toArray,.agg #[.int .i64 c,.int .i64 r,.slice sa sn sc]] w fun e w'=>e=.returned (.tuple #[.int .i64 (outW n c r),.int .i64 (outH n c r)])∧Below w.heap.size w w' :=
 refOuter_core cs c r (n 20) _ (blkW n c) (blkH n r) _ _ sa sn sc _ w hL (h 20 (by decide)) rfl rfl rfl rfl (fun w1=>refBlock_any cs n c r sa sn sc w1 h hL)
set_option maxRecDepth 100000 in
set_option maxHeartbeats 1000000 in
theorem refFits_core (cs:List Value) (c r a b R0 R1 R2 R3 x y:Int) (sa:Option Addr) (sn sc:Nat) (u v:Bool) (w:World) (hL:cs.length=33) (e1:IntKind.i64.wrap (R2-R0)=x) (e2:IntKind.i64.wrap (R3-R1)=y) (hu:decide (a≤x)=u) (hv:decide (b≤y)=v)
  (KO:∀ w1,Calls Try.prog 13 #[.agg cs.toArray,.agg #[.int .i64 c,.int .i64 r,.slice sa sn sc]] w1 fun e w'=>e=.returned (.tuple #[.int .i64 a,.int .i64 b])∧Below w1.heap.size w1 w')
  (KR:∀ w1,Calls Try.prog 18 #[.agg cs.toArray] w1 fun e w'=>e=.returned (.agg #[.int .i64 R0,.int .i64 R1,.int .i64 R2,.int .i64 R3])∧Below w1.heap.size w1 w') :
  Calls Try.prog 14 #[.agg cs.toArray,.agg #[.int .i64 c,.int .i64 r,.slice sa sn sc]] w fun e w'=>e=.returned (.bool (u&&v))∧Below w.heap.size w w':=by
 have F0:=Lib.hid (JFr.new w hL c r (.slice sa sn sc))
 have s0:=F0.out.s.cell 0 rfl;have s1:=F0.out.s.cell 1 rfl;have s2:=F0.out.s.cell 2 rfl
 have HL:=Lib.hid hL;have HO:=Lib.hid KO;have HR:=Lib.hid KR
 clear hL KO KR
 go_enter Try.func14,Try.ntmps14
 go_wp2_with (refine wpList_load_job rfl _ rfl w.heap.size rfl cs F0.out.x HL.out ?_;simp only [Act.put,List.setIfInBounds_toArray,List.set_cons_succ,List.set_cons_zero])
 refine (HO.out _).mono ?_
 rintro e w1 ⟨rfl,hb⟩
 have F1:=Lib.hid (F0.out.up HL.out hb)
 clear hb F0 s0 s1 s2
 go_wp2_with (refine wpList_load_job rfl _ rfl w.heap.size rfl cs F1.out.x HL.out ?_;simp only [Act.put,List.setIfInBounds_toArray,List.set_cons_succ,List.set_cons_zero])
 refine (HR.out _).mono ?_
 rintro e w2 ⟨rfl,hb⟩
 have U:=up_alloc (Below.refl _ w2) (.cells #[.int .i64 R0,.int .i64 R1,.int .i64 R2,.int .i64 R3] 40)
 have S:=Bx.new w2 40 [.int .i64 R0,.int .i64 R1,.int .i64 R2,.int .i64 R3]
 have B2:=Lib.hid (up_trans (up_trans F1.out.b hb) U)
 have r0:=S.cell 0 rfl;have r1:=S.cell 1 rfl;have r2:=S.cell 2 rfl;have r3:=S.cell 3 rfl
 clear hb U S F1
 cases u
 ·go_wp2
  go_ret
  exact ⟨rfl,B2.out⟩
 ·cases v
  ·go_wp2
   go_ret
   exact ⟨rfl,B2.out⟩
  ·go_wp2
   go_ret
   exact ⟨rfl,B2.out⟩
theorem refFits_any (cs:List Value) (n:Nat→Int) (c r:Int) (sa:Option Addr) (sn sc:Nat) (w:World) (h:NumC cs n) (hL:cs.length=33) :
  Calls Try.prog 14 #[.agg cs.toArray,.agg #[.int .i64 c,.int .i64 r,.slice sa sn sc]] w fun e w'=>e=.returned (.bool (fitsA n c r))∧Below w.heap.size w w' :=
 refFits_core cs c r (outW n c r) (outH n c r) (regionS n).1 (regionS n).2.1 (regionS n).2.2.1 (regionS n).2.2.2 (roomX n) (roomY n) sa sn sc _ _ w hL rfl rfl rfl rfl (fun w1=>refOuter_any cs n c r sa sn sc w1 h hL) (fun w1=>refRegion_any cs n w1 h hL)
theorem refMayA_core (cs:List Value) (c r f p:Int) (sa:Option Addr) (sn sc:Nat) (u v:Bool) (w:World) (hL:cs.length=33) (hu:decide (f<0)=u) (hv:decide (0<p)=v)
  (KF:∀ w1,Calls Try.prog 30 #[.agg cs.toArray] w1 fun e w'=>e=.returned (.int .i64 f)∧Below w1.heap.size w1 w')
  (KP:∀ w1,Calls Try.prog 31 #[.agg #[.int .i64 c,.int .i64 r,.slice sa sn sc]] w1 fun e w'=>e=.returned (.int .i64 p)∧Below w1.heap.size w1 w') :
  Calls Try.prog 8 #[.agg cs.toArray,.agg #[.int .i64 c,.int .i64 r,.slice sa sn sc]] w fun e w'=>e=.returned (.bool (u&&v))∧Below w.heap.size w w':=by
 have F0:=Lib.hid (JFr.new w hL c r (.slice sa sn sc))
 have HL:=Lib.hid hL;have HF:=Lib.hid KF;have HP:=Lib.hid KP
 clear hL KF KP
 go_enter Try.func8,Try.ntmps8
 go_wp2_with (refine wpList_load_job rfl _ rfl w.heap.size rfl cs F0.out.x HL.out ?_;simp only [Act.put,List.setIfInBounds_toArray,List.set_cons_succ,List.set_cons_zero])
 refine (HF.out _).mono ?_
 rintro e w1 ⟨rfl,hb⟩
 have F1:=F0.out.up HL.out hb
 have B1:=Lib.hid F1.b
 have s0:=F1.s.cell 0 rfl;have s1:=F1.s.cell 1 rfl;have s2:=F1.s.cell 2 rfl
 clear hb F0 F1
 cases u
 ·go_wp2
  go_ret
  exact ⟨rfl,B1.out⟩
 ·go_wp2_with fail
  refine (HP.out _).mono ?_
  rintro e w2 ⟨rfl,hb⟩
  have B2:=Lib.hid (up_trans B1.out hb)
  clear hb s0 s1 s2
  cases v
  ·go_wp2
   go_ret
   exact ⟨rfl,B2.out⟩
  ·go_wp2
   go_ret
   exact ⟨rfl,B2.out⟩
theorem refMayA_any (cs:List Value) (n:Nat→Int) (c r:Int) (sa:Option Addr) (sn sc:Nat) (w:World) (h:NumC cs n) (hL:cs.length=33) :
  Calls Try.prog 8 #[.agg cs.toArray,.agg #[.int .i64 c,.int .i64 r,.slice sa sn sc]] w fun e w'=>e=.returned (.bool (mayA n c r))∧Below w.heap.size w w' :=
 refMayA_core cs c r (firstJ n) (panM c r) sa sn sc _ _ w hL rfl rfl (fun w1=>refFirst_any cs n w1 hL h) (fun w1=>refPanels_any c r sa sn sc w1)
end Go.Proofs.Ytabinmabggnhbaa
