/- Part 3 of the texts that the proofs of this seat share: StyleTellsK, NumMath, NumBits, NumGuess, NumFloor, StyleCode, BoxCode, StyleFlipsK. -/
import Derived.Test.YtobpfncglbhcmaaPart2
import Derived.Laws.BitsAllLaws
import Derived.Test.YtobpfncglbhcmaaProg
import Derived.WalkKit
import Derived.WalkSpells
import Derived.WalkLawsBesides
import Derived.Lib.Hide
import Derived.Outline
import Derived.Lib.Mul64
import Derived.Deep.Light
import Derived.Lib.BitFns
import Derived.Lib.ItoaNum
import Derived.Deep.QuietTactic
import Derived.BigQuiet
import Derived.RowKit3
import Derived.OpenShut
import Derived.Test.YtobpfncglbhcmaaPart1
import Derived.Deep.DeepCutAuto
import Derived.Below
import Derived.Deep.RegionHeld3
set_option linter.unusedSectionVars false
set_option linter.unusedSimpArgs false
set_option linter.unusedVariables false
namespace Go.Proofs.Ytobpfncglbhcmaa
open Go.RowKit
set_option maxRecDepth 100000 in
set_option maxHeartbeats 4000000 in
theorem styTells_core (cs:List Value) (s pl t q F0 F1 F2 A0 A1 A2 A3 R0 R1 R2 R3:Int) (u v:Bool) (w:World) (hL:cs.length=33) (c16:cs[16]?=some (.int .i64 s)) (hu:decide (1≤s)=u) (hv:decide (s≤4)=v)
  (hin:u=true→v=true→s-1=t∧t.tdiv 2=q∧2-q=pl∧(1≤s∧s≤4)∧(0≤q∧q≤1)) (hout:(u&&v)=false→pl=0)
  (KA:∀ w1,Below w.heap.size w w1→Calls Try.prog 5 #[] w1 fun e w'=>e=.returned (.bool true)∧Below w1.heap.size w1 w')
  (KP:∀ w1,Below w.heap.size w w1→Calls Try.prog 6 #[.int .i64 s] w1 fun e w'=>e=.returned (.int .i64 pl)∧Below w1.heap.size w1 w')
  (KF:∀ w1,Below w.heap.size w w1→Calls Try.prog 7 #[.agg cs.toArray] w1 fun e w'=>e=.returned (.agg #[.int .i64 F0,.int .i64 F1,.int .i64 F2])∧Below w1.heap.size w1 w')
  (KG:∀ w1,Calls Try.prog 8 #[.agg cs.toArray] w1 fun e w'=>e=.returned (.agg #[.int .i64 F0,.int .i64 F1,.int .i64 F2])∧Below w1.heap.size w1 w')
  (KX:∀ w1,Below w.heap.size w w1→Calls Try.prog 9 #[.agg cs.toArray] w1 fun e w'=>e=.returned (.agg #[.int .i64 A0,.int .i64 A1,.int .i64 A2,.int .i64 A3])∧Below w1.heap.size w1 w')
  (KY:∀ w1,Calls Try.prog 10 #[.agg cs.toArray] w1 fun e w'=>e=.returned (.agg #[.int .i64 A0,.int .i64 A1,.int .i64 A2,.int .i64 A3])∧Below w1.heap.size w1 w')
  (KR:∀ w1,Below w.heap.size w w1→Calls Try.prog 11 #[.agg cs.toArray] w1 fun e w'=>e=.returned (.agg #[.int .i64 R0,.int .i64 R1,.int .i64 R2,.int .i64 R3])∧Below w1.heap.size w1 w')
  (KS:∀ w1,Calls Try.prog 12 #[.agg cs.toArray] w1 fun e w'=>e=.returned (.agg #[.int .i64 R0,.int .i64 R1,.int .i64 R2,.int .i64 R3])∧Below w1.heap.size w1 w') :
  Calls Try.prog 3 #[.agg cs.toArray] w fun e w'=>e=.returned (.bool true)∧Below w.heap.size w w':=by
 have HX:=Lib.hid (Bx.new w 29 cs)
 have HB:=Lib.hid (up_alloc (Below.refl w.heap.size w) (.cells cs.toArray 29))
 have HL:=Lib.hid hL;have H16:=Lib.hid c16;have HIN:=Lib.hid hin;have HOUT:=Lib.hid hout
 have HA:=Lib.hid KA;have HP:=Lib.hid KP;have HF:=Lib.hid KF;have HG:=Lib.hid KG;have HAr:=Lib.hid KX;have HY:=Lib.hid KY;have HR:=Lib.hid KR;have HS:=Lib.hid KS
 clear hL c16 KA KP KF KG KX KY KR KS hin hout
 go_enter Try.func3,Try.ntmps3
 go_wp2_with fail
 refine (HA.out _ HB.out).mono ?_
 rintro e w1 ⟨rfl,hb⟩
 have X1:=HX.out.later (by rw [HL.out];decide) hb
 have B1:=Lib.hid (up_trans HB.out hb)
 have b16:=X1.cell 16 H16.out
 have j16:=fun y:Later w1=>y.cell b16
 have HRG:=Lib.hid (later_range X1 (by rw [HL.out];decide))
 have k3:=fun w=>run_eq3 F0 F1 F2 w
 have k4:=fun w=>run_eq4 A0 A1 A2 A3 w
 have k5:=fun w=>run_eq4 R0 R1 R2 R3 w
 clear hb HX HB X1
 cases u
 ·obtain rfl:=HOUT.out (by trivial)
  clear HIN HOUT
  go_wp2_with fail
  clear b16
  refine later_start (w:=w1) ?_
  intro y
  refine wp_region_later (by kernel_rfl) (by kernel_rfl) ?_
  repeat (first
   | (go_big_quiet_want;refine quiet_load_job _ rfl w.heap.size rfl cs HL.out HRG.out ?_;simp only [Act.put,List.setIfInBounds_toArray,List.set_cons_succ,List.set_cons_zero];go_big_quiet_on)
   | go_big_quiet_step (first
    | (go_at_call 6;with_reducible exact Later.call (HP.out _ (up_trans B1.out (Later.up _))))
    | (go_at_call 7;with_reducible exact Later.call (HF.out _ (up_trans B1.out (Later.up _))))
    | (go_at_call 8;with_reducible exact Later.call (HG.out _))
    | (go_at_call 9;with_reducible exact Later.call (HAr.out _ (up_trans B1.out (Later.up _))))
    | (go_at_call 10;with_reducible exact Later.call (HY.out _))
    | (go_at_call 11;with_reducible exact Later.call (HR.out _ (up_trans B1.out (Later.up _))))
    | (go_at_call 12;with_reducible exact Later.call (HS.out _))))
  refine wpQuiet_nil ?_
  rintro _ ⟨y2,rfl⟩
  have BB:=Lib.hid (up_trans B1.out y2.up)
  clear j16
  go_wp2
  go_ret
  exact ⟨rfl,BB.out⟩
 ·cases v
  ·obtain rfl:=HOUT.out (by trivial)
   clear HIN HOUT
   go_wp2_with fail
   clear b16
   refine later_start (w:=w1) ?_
   intro y
   refine wp_region_later (by kernel_rfl) (by kernel_rfl) ?_
   repeat (first
    | (go_big_quiet_want;refine quiet_load_job _ rfl w.heap.size rfl cs HL.out HRG.out ?_;simp only [Act.put,List.setIfInBounds_toArray,List.set_cons_succ,List.set_cons_zero];go_big_quiet_on)
    | go_big_quiet_step (first
     | (go_at_call 6;with_reducible exact Later.call (HP.out _ (up_trans B1.out (Later.up _))))
     | (go_at_call 7;with_reducible exact Later.call (HF.out _ (up_trans B1.out (Later.up _))))
     | (go_at_call 8;with_reducible exact Later.call (HG.out _))
     | (go_at_call 9;with_reducible exact Later.call (HAr.out _ (up_trans B1.out (Later.up _))))
     | (go_at_call 10;with_reducible exact Later.call (HY.out _))
     | (go_at_call 11;with_reducible exact Later.call (HR.out _ (up_trans B1.out (Later.up _))))
     | (go_at_call 12;with_reducible exact Later.call (HS.out _))))
   refine wpQuiet_nil ?_
   rintro _ ⟨y2,rfl⟩
   have BB:=Lib.hid (up_trans B1.out y2.up)
   clear j16
   go_wp2
   go_ret
   exact ⟨rfl,BB.out⟩
  ·obtain ⟨h1,h2,h3,⟨h4,h5⟩,h6,h7⟩:=HIN.out (by trivial) (by trivial)
   clear HIN HOUT
   go_wp2_with fail
   clear b16
   refine later_start (w:=w1) ?_
   intro y
   refine wp_region_later (by kernel_rfl) (by kernel_rfl) ?_
   repeat (first
    | (go_big_quiet_want;refine quiet_load_job _ rfl w.heap.size rfl cs HL.out HRG.out ?_;simp only [Act.put,List.setIfInBounds_toArray,List.set_cons_succ,List.set_cons_zero];go_big_quiet_on)
    | go_big_quiet_step (first
     | (go_at_call 6;with_reducible exact Later.call (HP.out _ (up_trans B1.out (Later.up _))))
     | (go_at_call 7;with_reducible exact Later.call (HF.out _ (up_trans B1.out (Later.up _))))
     | (go_at_call 8;with_reducible exact Later.call (HG.out _))
     | (go_at_call 9;with_reducible exact Later.call (HAr.out _ (up_trans B1.out (Later.up _))))
     | (go_at_call 10;with_reducible exact Later.call (HY.out _))
     | (go_at_call 11;with_reducible exact Later.call (HR.out _ (up_trans B1.out (Later.up _))))
     | (go_at_call 12;with_reducible exact Later.call (HS.out _))))
   refine wpQuiet_nil ?_
   rintro _ ⟨y2,rfl⟩
   have BB:=Lib.hid (up_trans B1.out y2.up)
   clear j16
   go_wp2
   go_ret
   exact ⟨rfl,BB.out⟩
theorem walkStyleTellsK (KP:StyPlates) (KF:StyFlip) (KX:StyArea) (KR:StyRegion) (cs:List Value) (j:Jb) (w:World) (h:(JobA w cs j∧j.t.length≤maxLen∧∀ p∈j.ls,p.length≤maxLen)∧∀ i,-9223372036854775808≤j.n i∧j.n i≤9223372036854775807) :
  Calls Try.prog 3 #[.agg cs.toArray] w fun e w'=>e=.returned (.bool true)∧Below w.heap.size w w':=by
 have hJ:=h.1.1
 have hN:=hJ.numC
 have hL:=hJ.length
 refine styTells_core cs (j.n 11) (platesS (j.n 11)) (j.n 11-1) ((j.n 11-1).tdiv 2) (flipS j.n).1 (flipS j.n).2.1 (flipS j.n).2.2 (areaS j.n).1 (areaS j.n).2.1 (areaS j.n).2.2.1 (areaS j.n).2.2.2 (regionS j.n).1 (regionS j.n).2.1 (regionS j.n).2.2.1 (regionS j.n).2.2.2 _ _ w hL (hN 11 (by decide)) rfl rfl (fun e1 e2=>?_) (fun e=>?_)
  (fun w1 hb=>styAlive_any KP KF w1) (fun w1 hb=>KP (j.n 11) w1 (h.2 11)) (fun w1 hb=>KF cs j w1 (hJ.up hb)) (fun w1=>refFlip_any cs j.n w1 hN hL) (fun w1 hb=>KX cs j w1 (hJ.up hb)) (fun w1=>refArea_any cs j.n w1 hN hL) (fun w1 hb=>KR cs j w1 (hJ.up hb) h.2) (fun w1=>refRegion_any cs j.n w1 hN hL)
 ·simp only [decide_eq_true_eq] at e1 e2
  have hq:(j.n 11-1).tdiv 2=(j.n 11-1) / 2:=Int.tdiv_eq_ediv_of_nonneg (by omega)
  refine ⟨rfl,rfl,?_,⟨e1,e2⟩,by omega⟩
  unfold platesS styB
  rw [if_pos (by simp;omega)]
  split<;>omega
 ·unfold platesS styB
  rw [e]
  rfl
end Go.Proofs.Ytobpfncglbhcmaa
namespace Go.Proofs.Ytobpfncglbhcmaa.NumMath
def Prod (a b:Int) (k:Nat) (hi lo:Int):Prop :=
 0≤hi∧hi<18446744073709551616∧0≤lo∧lo<18446744073709551616∧hi*18446744073709551616+lo=a*(b / 2 ^ k)
section
variable (a b hi lo:Int) (k:Nat) (a0:0≤a) (a1:a<18446744073709551616) (b0:0≤b) (b1:b<18446744073709551616) (h:Prod a b (k+1) hi lo)
include a0 a1 b0 b1 h
end
def Quot (n c:Int) (i:Nat) (hi lo qh ql r:Int):Prop :=
 0≤hi∧hi<18446744073709551616∧0≤lo∧lo<18446744073709551616∧0≤qh∧qh<18446744073709551616∧0≤ql∧ql<18446744073709551616∧0≤r∧r<c ∧
 n*2 ^ i=((qh*18446744073709551616+ql)*c+r)*340282366920938463463374607431768211456+(hi*18446744073709551616+lo)
section
variable (n c hi lo qh ql r:Int) (i:Nat) (hi1:i+1≤128) (n0:0≤n) (n1:n<340282366920938463463374607431768211456) (c0:1≤c) (c1:c≤9223372036854775808) (h:Quot n c i hi lo qh ql r)
include hi1 n0 n1 c0 c1 h
end
def sz (n:Int):Int:=if n<0 then -n else n
theorem sz_bd (n:Int) (h0:-9223372036854775808≤n) (h1:n≤9223372036854775807):0≤sz n∧sz n≤9223372036854775808:=by unfold sz;split<;>omega
theorem sz_pos (n:Int) (h:n≠0):1≤sz n:=by unfold sz;split<;>omega
def fl (p c:Int):Int:=if 0<c then p / c else (-p) / (-c)
def fits (n:Int):Bool:=decide (-9223372036854775808≤n)&&decide (n≤9223372036854775807)
def opt (n:Int):Int×Bool:=if fits n=true then (n,true) else (0,false)
def md (a b c:Int):Int×Bool:=if c=0 then (0,false) else opt (fl (a*b) c)
def neg3 (a b c:Int):Bool:=(decide (a<0) != decide (b<0)) != decide (c<0)
theorem div_of (C N Q R:Int) (h:N=Q*C+R) (r0:0≤R) (r1:R<C):N / C=Q:=by
 rw [h,Int.add_comm,Int.add_mul_ediv_right _ _ (by omega),Int.ediv_eq_zero_of_lt r0 r1];simp
theorem div_neg_of (C N Q R:Int) (h:N=Q*C+R) (r0:0≤R) (r1:R<C):(-N) / C=if R=0 then -Q else -(Q+1):=by
 split
 ·refine div_of C (-N) (-Q) 0 ?_ (by omega) (by omega)
  rw [h,Int.neg_mul];omega
 ·refine div_of C (-N) (-(Q+1)) (C-R) ?_ (by omega) (by omega)
  rw [h,Int.neg_mul,Int.add_mul];omega
theorem mul_sign (a b:Int):a*b=if (decide (a<0) != decide (b<0))=true then -(sz a*sz b) else sz a*sz b:=by
 unfold sz
 by_cases ha:a<0<;>by_cases hb:b<0<;>simp [ha,hb,Int.neg_mul,Int.mul_neg]
theorem fl_eq (a b c Q R:Int) (hc:c≠0) (hN:sz a*sz b=Q*sz c+R) (r0:0≤R) (r1:R<sz c) :
  fl (a*b) c=if neg3 a b c=true then (if R=0 then -Q else -(Q+1)) else Q:=by
 have k1:=div_of (sz c) _ Q R hN r0 r1
 have k2:=div_neg_of (sz c) _ Q R hN r0 r1
 clear hN r0 r1
 rw [mul_sign]
 unfold neg3
 by_cases hd:c<0
 ·have e:sz c=-c:=by simp [sz,hd]
  have hp:¬ 0<c:=by omega
  rw [e] at k1 k2
  unfold fl
  cases hx:(decide (a<0) != decide (b<0))<;>simp [hd,hp,k1,k2]
 ·have e:sz c=c:=by simp [sz,hd]
  have hp:0<c:=by omega
  rw [e] at k1 k2
  unfold fl
  cases hx:(decide (a<0) != decide (b<0))<;>simp [hd,hp,k1,k2]
theorem opt_yes (n:Int) (h0:-9223372036854775808≤n) (h1:n≤9223372036854775807):opt n=(n,true):=by
 unfold opt fits;rw [if_pos (by simp;omega)]
theorem opt_no (n:Int) (h:n < -9223372036854775808∨9223372036854775807<n):opt n=(0,false):=by
 unfold opt fits;rw [if_neg (by simp;omega)]
def sgN (m:Int) (below:Bool):Int×Bool:=opt (if below=true then -m else m)
section
variable (a b c Q R:Int) (hc:c≠0) (hN:sz a*sz b=Q*sz c+R) (r0:0≤R) (r1:R<sz c)
include hc hN r0 r1
theorem md_plus (t:neg3 a b c=false):md a b c=sgN Q false:=by
 unfold md sgN;rw [if_neg hc,fl_eq a b c Q R hc hN r0 r1,t];simp
theorem md_minus (t:neg3 a b c=true) (z:R=0):md a b c=sgN Q true:=by
 unfold md sgN;rw [if_neg hc,fl_eq a b c Q R hc hN r0 r1,t,z];simp
theorem md_less (t:neg3 a b c=true) (z:R≠0):md a b c=sgN (Q+1) true:=by
 unfold md sgN;rw [if_neg hc,fl_eq a b c Q R hc hN r0 r1,t,if_pos rfl,if_neg z];simp
end
theorem sg_plus (m:Int) (h0:0≤m) (h1:m≤9223372036854775807):sgN m false=(m,true):=by unfold sgN;simp;exact opt_yes _ (by omega) (by omega)
theorem sg_plus_no (m:Int) (h1:9223372036854775807<m):sgN m false=(0,false):=by unfold sgN;simp;exact opt_no _ (by omega)
theorem sg_minus (m:Int) (h0:0≤m) (h1:m≤9223372036854775808):sgN m true=(-m,true):=by unfold sgN;simp;exact opt_yes _ (by omega) (by omega)
theorem sg_minus_no (m:Int) (h1:9223372036854775808<m):sgN m true=(0,false):=by unfold sgN;simp;exact opt_no _ (by omega)
theorem md_all (a b c Q R:Int) (hc:c≠0) (hN:sz a*sz b=Q*sz c+R) (q0:0≤Q) (r0:0≤R) (r1:R<sz c) :
  (neg3 a b c=false→(Q≤9223372036854775807→md a b c=(Q,true))∧(9223372036854775807<Q→md a b c=(0,false))) ∧
  (neg3 a b c=true→(R≤0→Q≤9223372036854775808→md a b c=(-Q,true))∧(R≤0→9223372036854775808<Q→md a b c=(0,false)) ∧
   (0<R→Q+1≤9223372036854775808→md a b c=(-(Q+1),true))∧(0<R→9223372036854775808<Q+1→md a b c=(0,false))):=by
 refine ⟨fun t=>⟨fun h=>?_,fun h=>?_⟩,fun t=>⟨fun z h=>?_,fun z h=>?_,fun z h=>?_,fun z h=>?_⟩⟩
 ·rw [md_plus a b c Q R hc hN r0 r1 t,sg_plus _ q0 h]
 ·rw [md_plus a b c Q R hc hN r0 r1 t,sg_plus_no _ h]
 ·rw [md_minus a b c Q R hc hN r0 r1 t (by omega),sg_minus _ q0 h]
 ·rw [md_minus a b c Q R hc hN r0 r1 t (by omega),sg_minus_no _ h]
 ·rw [md_less a b c Q R hc hN r0 r1 t (by omega),sg_minus _ (by omega) h]
 ·rw [md_less a b c Q R hc hN r0 r1 t (by omega),sg_minus_no _ h]
end Go.Proofs.Ytobpfncglbhcmaa.NumMath
namespace Go.Proofs.Ytobpfncglbhcmaa
open Go.RowKit NumMath
theorem ret_pair {n:Int} {t:Bool} {p:Int×Bool} (h:p=(n,t)):Ending.returned (.tuple #[.int .i64 n,.bool t])=.returned (.tuple #[.int .i64 p.1,.bool p.2]):=by rw [h]
theorem pair_eq {p:Int×Bool} {n m:Int} {t:Bool} (h:p=(n,t)) (e:n=m):p=(m,t):=by rw [h,e]
end Go.Proofs.Ytobpfncglbhcmaa
namespace Go.Proofs.Ytobpfncglbhcmaa.NumMath
def Gq (u v1 v0 d q r:Int):Prop:=q*v1=u-r∧0≤r∧r<4294967296∧0≤q∧q≤4294967297∧r*4294967296+d<q*v0+v1*4294967296+v0
section
variable (u v1 v0 d:Int) (a0:2147483648≤v1) (a1:v1<4294967296) (b0:0≤v0) (b1:v0<4294967296) (d0:0≤d) (d1:d<4294967296) (u0:0≤u) (u1:u<v1*4294967296+v0)
include a0 a1 b0 b1 d0 d1 u0 u1
variable (q r:Int) (h:Gq u v1 v0 d q r)
include h
end
end Go.Proofs.Ytobpfncglbhcmaa.NumMath
namespace Go.Proofs.Ytobpfncglbhcmaa
open Go.RowKit NumMath
theorem tdiv_sz (a b:Int) (hb:b≠0):a.tdiv b=(if (decide (a<0)==decide (b<0))=true then sz a / sz b else -(sz a / sz b))∧a.tmod b=(if a<0 then -(sz a%sz b) else sz a%sz b):=by
 unfold sz
 by_cases ha:a<0<;>by_cases h:b<0
 ·have e1:a.tdiv b=(-a) / (-b):=by rw [←Int.tdiv_eq_ediv_of_nonneg (by omega),Int.neg_tdiv,Int.tdiv_neg,Int.neg_neg]
  have e2:a.tmod b=-((-a)%(-b)):=by rw [←Int.tmod_eq_emod_of_nonneg (by omega),Int.neg_tmod,Int.tmod_neg,Int.neg_neg]
  simp [ha,h,e1,e2]
 ·have e1:a.tdiv b=-((-a) / b):=by rw [←Int.tdiv_eq_ediv_of_nonneg (by omega),Int.neg_tdiv,Int.neg_neg]
  have e2:a.tmod b=-((-a)%b):=by rw [←Int.tmod_eq_emod_of_nonneg (by omega),Int.neg_tmod,Int.neg_neg]
  simp [ha,h,e1,e2]
 ·have e1:a.tdiv b=-(a / (-b)):=by rw [←Int.tdiv_eq_ediv_of_nonneg (by omega),Int.tdiv_neg,Int.neg_neg]
  have e2:a.tmod b=a%(-b):=by rw [←Int.tmod_eq_emod_of_nonneg (by omega),Int.tmod_neg]
  simp [ha,h,e1,e2]
 ·have e1:a.tdiv b=a / b:=Int.tdiv_eq_ediv_of_nonneg (by omega)
  have e2:a.tmod b=a%b:=Int.tmod_eq_emod_of_nonneg (by omega)
  simp [ha,h,e1,e2]
theorem sz_div (a b:Int) (a0:-9223372036854775808≤a) (a1:a≤9223372036854775807) (hb:b≠0) :
  ∃ Q R:Int,sz a / sz b=Q∧sz a%sz b=R∧0≤Q∧Q≤9223372036854775808∧0≤R∧R<sz b∧sz a=Q*sz b+R∧(2≤sz b→Q≤4611686018427387904):=by
 have p:=sz_pos b hb
 obtain ⟨x0,x1⟩:=sz_bd a a0 a1
 have m:=Int.mul_ediv_add_emod (sz a) (sz b)
 have m0:=Int.emod_nonneg (sz a) (by omega:sz b≠0)
 have m1:=Int.emod_lt_of_pos (sz a) (by omega:0<sz b)
 have q0:0≤sz a / sz b:=Int.ediv_nonneg x0 (by omega)
 have q1:sz a / sz b≤sz a:=Int.ediv_le_self _ x0
 rw [Int.mul_comm] at m
 refine ⟨_,_,rfl,rfl,q0,by omega,m0,m1,m.symm,fun h=>?_⟩
 have:=Int.mul_le_mul_of_nonneg_left h q0
 omega
set_option maxHeartbeats 1000000 in
theorem floor_any (a b:Int) (w:World) (a0:-9223372036854775808≤a) (a1:a≤9223372036854775807) (b0:-9223372036854775808≤b) (b1:b≤9223372036854775807) :
  Calls Try.prog 27 #[.int .i64 a,.int .i64 b] w fun e w'=>e=.returned (.tuple #[.int .i64 (md a 1 b).1,.bool (md a 1 b).2])∧w=w':=by
 by_cases hb:b=0
 ·subst hb
  have H:=Lib.hid (show md a 1 0=(0,false) from rfl)
  go_enter Try.func27,Try.ntmps27
  go_wp2
  go_ret2
  exact ⟨ret_pair H.out,rfl⟩
 by_cases hx:a=-9223372036854775808∧b=-1
 ·obtain ⟨rfl,rfl⟩:=hx
  have H:=Lib.hid (show md (-9223372036854775808) 1 (-1)=(0,false) by decide)
  go_enter Try.func27,Try.ntmps27
  go_wp2
  go_ret2
  exact ⟨ret_pair H.out,rfl⟩
 obtain ⟨Q,R,eQ,eR,q0,q1,r0,r1,e,q2⟩:=sz_div a b a0 a1 hb
 obtain ⟨t1,t2⟩:=tdiv_sz a b hb
 rw [eQ] at t1
 rw [eR] at t2
 have s1:sz 1=1:=rfl
 have eN:sz a*sz 1=Q*sz b+R:=by rw [s1];omega
 have F:=Lib.hid (md_all a 1 b Q R hb eN q0 r0 r1)
 obtain ⟨t,ht⟩:∃ t,a.tdiv b=t:=⟨_,rfl⟩
 obtain ⟨m,hm⟩:∃ m,a.tmod b=m:=⟨_,rfl⟩
 rw [ht] at t1
 rw [hm] at t2
 have mr:(m=0∧R=0)∨(m≠0∧0<R∧2≤sz b):=by
  by_cases hR:R=0
  ·left;refine ⟨?_,hR⟩;rw [t2,hR];split<;>rfl
  ·right;refine ⟨?_,by omega,by omega⟩;rw [t2];split<;>omega
 have hz:(b==0)=false:=by simpa using hb
 have bb:sz b=1→b=1∨b=-1:=by unfold sz;split<;>omega
 obtain ⟨g,hg⟩:∃ g,neg3 a 1 b=g:=⟨_,rfl⟩
 have ng:(decide (a<0)==decide (b<0))=!g:=by rw [←hg];simp only [neg3];cases decide (a<0)<;>cases decide (b<0)<;>rfl
 rw [ng] at t1
 cases g
 ·
  have tq:t=Q:=by rw [t1];simp
  have qs:Q≤9223372036854775807:=by
   refine Int.not_lt.1 fun h=>hx ?_
   have h2:¬ 2≤sz b:=fun h3=>by have:=q2 h3;omega
   have:=sz_pos b hb
   have sb:sz b=1:=by omega
   rw [sb] at e
   have sa:sz a=9223372036854775808:=by omega
   have aa:a=-9223372036854775808:=by unfold sz at sa;split at sa<;>omega
   refine ⟨aa,?_⟩
   rcases bb sb with h4 | h4
   ·exfalso;rw [aa,h4] at ng;simp at ng
   ·exact h4
  have H:=Lib.hid ((F.out.1 hg).1 qs)
  have TQ:=Lib.hid tq
  have tb:0≤t∧t≤9223372036854775807:=by omega
  obtain ⟨tb0,tb1⟩:=tb
  have ng2:(decide (a<0)==decide (b<0))=true:=ng
  have mr2:m=0∨m≠0:=by omega
  clear F t1 t2 eN e s1 tq eQ eR ng mr bb q2 hg
  by_cases ha:a=-9223372036854775808
  ·have k1:(a==-9223372036854775808)=true:=by simpa using ha
   have k2:(b==-1)=false:=by simp;omega
   clear ha hx
   rcases mr2 with rfl | mz
   ·go_enter Try.func27,Try.ntmps27
    go_wp2
    go_ret2
    exact ⟨ret_pair (pair_eq H.out TQ.out.symm),rfl⟩
   ·go_enter Try.func27,Try.ntmps27
    go_wp2
    go_ret2
    exact ⟨ret_pair (pair_eq H.out TQ.out.symm),rfl⟩
  ·have k1:(a==-9223372036854775808)=false:=by simpa using ha
   clear ha hx
   rcases mr2 with rfl | mz
   ·go_enter Try.func27,Try.ntmps27
    go_wp2
    go_ret2
    exact ⟨ret_pair (pair_eq H.out TQ.out.symm),rfl⟩
   ·go_enter Try.func27,Try.ntmps27
    go_wp2
    go_ret2
    exact ⟨ret_pair (pair_eq H.out TQ.out.symm),rfl⟩
 ·have tq:t=-Q:=by rw [t1];simp
  have TQ:=Lib.hid tq
  have ng2:(decide (a<0)==decide (b<0))=false:=ng
  have H:(m=0∧-9223372036854775808≤t∧t≤0∧md a 1 b=(-Q,true))∨(m≠0∧-4611686018427387904≤t∧t≤0∧md a 1 b=(-(Q+1),true)):=by
   rcases mr with ⟨h1,h2⟩ | ⟨h1,h2,h3⟩
   ·left;exact ⟨h1,by omega,by omega,(F.out.2 hg).1 (by omega) (by omega)⟩
   ·right;have:=q2 h3;exact ⟨h1,by omega,by omega,(F.out.2 hg).2.2.1 (by omega) (by omega)⟩
  clear F t1 t2 eN e s1 tq eQ eR ng mr bb q2 hg
  rcases H with ⟨rfl,tb0,tb1,h⟩ | ⟨mz,tb0,tb1,h⟩
  ·have H:=Lib.hid h;clear h
   by_cases ha:a=-9223372036854775808
   ·have k1:(a==-9223372036854775808)=true:=by simpa using ha
    have k2:(b==-1)=false:=by simp;omega
    clear ha hx
    go_enter Try.func27,Try.ntmps27
    go_wp2
    go_ret2
    exact ⟨ret_pair (pair_eq H.out TQ.out.symm),rfl⟩
   ·have k1:(a==-9223372036854775808)=false:=by simpa using ha
    clear ha hx
    go_enter Try.func27,Try.ntmps27
    go_wp2
    go_ret2
    exact ⟨ret_pair (pair_eq H.out TQ.out.symm),rfl⟩
  ·have H:=Lib.hid h;clear h
   by_cases ha:a=-9223372036854775808
   ·have k1:(a==-9223372036854775808)=true:=by simpa using ha
    have k2:(b==-1)=false:=by simp;omega
    clear ha hx
    go_enter Try.func27,Try.ntmps27
    go_wp2
    go_ret2
    exact ⟨ret_pair (pair_eq H.out (by rw [TQ.out];omega)),rfl⟩
   ·have k1:(a==-9223372036854775808)=false:=by simpa using ha
    clear ha hx
    go_enter Try.func27,Try.ntmps27
    go_wp2
    go_ret2
    exact ⟨ret_pair (pair_eq H.out (by rw [TQ.out];omega)),rfl⟩
def rs (a b:Int):Int:=a-b*fl a b
def rest (a b:Int):Int×Bool:=if b=0 then (0,false) else (rs a b,true)
end Go.Proofs.Ytobpfncglbhcmaa
namespace Go.Proofs.Ytobpfncglbhcmaa
open Go.RowKit
theorem styPlates_core (s o:Int) (a b c d:Bool) (w:World) (e1:(s==1)=a) (e2:(s==2)=b) (e3:(s==3)=c) (e4:(s==4)=d)
  (ho:(if (a || b)=true then 2 else if (c || d)=true then 1 else 0)=o) :
  Calls Try.prog 6 #[.int .i64 s] w fun e w'=>e=.returned (.int .i64 o)∧Below w.heap.size w w':=by
 have HO:=Lib.hid ho
 clear ho
 cases a<;>cases b<;>cases c<;>cases d
 all_goals
  have E:=HO.out
  simp only [Bool.or_self,Bool.or_true,Bool.or_false,Bool.true_or,Bool.false_or,Bool.false_eq_true,if_true,if_false] at E
  subst E
  clear HO
  go_enter Try.func6,Try.ntmps6
  go_wp2
  go_ret
  exact ⟨rfl,Below.refl _ _⟩
theorem styPlates_all (s:Int) (w:World):Calls Try.prog 6 #[.int .i64 s] w fun e w'=>e=.returned (.int .i64 (platesS s))∧Below w.heap.size w w':=by
 refine styPlates_core s (platesS s) _ _ _ _ w rfl rfl rfl rfl ?_
 unfold platesS styB
 simp only [Bool.or_eq_true,beq_iff_eq,Bool.and_eq_true,decide_eq_true_eq]
 by_cases h1:s=1∨s=2
 ·rw [if_pos h1,if_pos (by omega),if_neg (by omega)]
 ·rw [if_neg h1]
  by_cases h3:s=3∨s=4
  ·rw [if_pos h3,if_pos (by omega),if_pos (by omega)]
  ·rw [if_neg h3,if_neg (by omega)]
theorem styPlates:StyPlates:=fun s w hs=>styPlates_all s w
theorem styUpends_core (s:Int) (a b:Bool) (w:World) (e2:(s==2)=a) (e4:(s==4)=b) :
  Calls Try.prog 17 #[.int .i64 s] w fun e w'=>e=.returned (.bool (a || b))∧Below w.heap.size w w':=by
 cases a<;>cases b
 all_goals
  go_enter Try.func17,Try.ntmps17
  go_wp2
  go_ret
  exact ⟨rfl,Below.refl _ _⟩
theorem styUpends_any (s:Int) (w:World):Calls Try.prog 17 #[.int .i64 s] w fun e w'=>e=.returned (.bool (acrB s))∧Below w.heap.size w w' :=
 styUpends_core s _ _ w rfl rfl
theorem md_half (n:Int) (h:I64 n):NumMath.md n 1 2=(n / 2,true):=by
 unfold I64 at h
 unfold NumMath.md NumMath.fl
 rw [if_neg (by decide),if_pos (by decide),Int.mul_one]
 exact NumMath.opt_yes _ (by omega) (by omega)
theorem styHalf_any (n:Int) (w:World) (h:I64 n):Calls Try.prog 21 #[.int .i64 n] w fun e w'=>e=.returned (.int .i64 (n / 2))∧Below w.heap.size w w':=by
 have K:=floor_any n 2 w h.1 h.2 (by decide) (by decide)
 rw [md_half n h] at K
 have HK:=Lib.hid K
 obtain ⟨q,hq⟩:∃ q,n / 2=q:=⟨_,rfl⟩
 rw [hq] at HK ⊢
 clear K hq h
 go_enter Try.func21,Try.ntmps21
 go_wp2_with fail
 refine HK.out.mono ?_
 rintro e w1 ⟨rfl,rfl⟩
 go_wp2
 go_ret
 exact ⟨rfl,Below.refl _ _⟩
theorem sty_boxes (w:World) {cs:List Value} (hL:cs.length=33) (T:Nat) (zs:List Value) :
  Bx ((w.alloc (.cells cs.toArray 29)).alloc (.cells zs.toArray T)) w.heap.size cs∧Bx ((w.alloc (.cells cs.toArray 29)).alloc (.cells zs.toArray T)) (w.heap.size+1) zs ∧
  Below w.heap.size w ((w.alloc (.cells cs.toArray 29)).alloc (.cells zs.toArray T)):=by
 have X1:=Bx.new w 29 cs
 have U1:=up_alloc (Below.refl w.heap.size w) (.cells cs.toArray 29)
 have V1:=up_alloc (Below.refl _ (w.alloc (.cells cs.toArray 29))) (.cells zs.toArray T)
 have R1:=Bx.new (w.alloc (.cells cs.toArray 29)) T zs
 rw [World.size_alloc] at R1
 exact ⟨X1.later (by rw [hL];decide) V1,R1,up_trans U1 V1⟩
set_option maxHeartbeats 1000000 in
theorem styFlip_core (cs:List Value) (s W H p o0 o1 o2:Int) (z a:Bool) (w:World) (hL:cs.length=33) (c16:cs[16]?=some (.int .i64 s)) (c17:cs[17]?=some (.int .i64 W)) (c18:cs[18]?=some (.int .i64 H)) (hz:(p==0)=z)
  (hzero:z=true→0=o0∧0=o1∧0=o2) (hy:z=false→a=true→6=o0∧0=o1∧H=o2) (hx:z=false→a=false→4=o0∧W=o1∧0=o2)
  (KP:∀ w1,Calls Try.prog 6 #[.int .i64 s] w1 fun e w'=>e=.returned (.int .i64 p)∧Below w1.heap.size w1 w')
  (KU:∀ w1,Calls Try.prog 17 #[.int .i64 s] w1 fun e w'=>e=.returned (.bool a)∧Below w1.heap.size w1 w') :
  Calls Try.prog 7 #[.agg cs.toArray] w fun e w'=>e=.returned (.agg #[.int .i64 o0,.int .i64 o1,.int .i64 o2])∧Below w.heap.size w w':=by
 obtain ⟨X1,R1,B1⟩:=sty_boxes w hL 33 [.int .i64 0,.int .i64 0,.int .i64 0]
 have b16:=X1.cell 16 c16;have b17:=X1.cell 17 c17;have b18:=X1.cell 18 c18
 have HR:=Lib.hid R1;have HB:=Lib.hid B1
 have HP:=Lib.hid KP;have HU:=Lib.hid KU
 have KX:=Lib.hid (fun w1=>flipX_any W w1);have KY:=Lib.hid (fun w1=>flipY_any H w1)
 have Z:=Lib.hid hzero;have Y:=Lib.hid hy;have X:=Lib.hid hx
 clear X1 R1 B1 KP KU hzero hy hx c16 c17 c18 hL
 generalize cs.toArray=ca at *
 cases z
 ·cases a
  ·obtain ⟨rfl,rfl,rfl⟩:=X.out rfl rfl
   go_enter Try.func7,Try.ntmps7
   go_wp2_with fail
   refine (HP.out _).mono ?_
   rintro e w1 ⟨rfl,hb⟩
   have HR1:=Lib.hid (HR.out.up hb);have HB1:=Lib.hid (up_trans HB.out hb)
   have d16:=bl_cell hb b16;have d17:=bl_cell hb b17;have d18:=bl_cell hb b18
   clear hb b16 b17 b18 HR HB
   go_wp2_with fail
   refine (HU.out _).mono ?_
   rintro e w2 ⟨rfl,hb⟩
   have HR2:=Lib.hid (HR1.out.up hb);have HB2:=Lib.hid (up_trans HB1.out hb)
   have e17:=bl_cell hb d17;have e18:=bl_cell hb d18
   clear hb d16 d17 d18 HR1 HB1
   go_wp2_with fail
   refine (KX.out _).mono ?_
   rintro e w3 ⟨rfl,hb⟩
   have R3:=HR2.out.up hb;have B3:=up_trans HB2.out hb
   clear hb e17 e18
   have r0:=R3.cell 0 rfl;have r1:=R3.cell 1 rfl;have r2:=R3.cell 2 rfl;have rf:=R3.free
   clear R3
   go_wp2
   refine bodyPost_ret (v:=.agg #[.int .i64 4,.int .i64 W,.int .i64 0]) (by simp [results,Try.results7,go_sem,r0,r1,r2]) rfl ⟨rfl,?_⟩
   exact up_set (up_set (up_set B3 (by simp only;omega) _) (by simp only;omega) _) (by simp only;omega) _
  ·obtain ⟨rfl,rfl,rfl⟩:=Y.out rfl rfl
   go_enter Try.func7,Try.ntmps7
   go_wp2_with fail
   refine (HP.out _).mono ?_
   rintro e w1 ⟨rfl,hb⟩
   have HR1:=Lib.hid (HR.out.up hb);have HB1:=Lib.hid (up_trans HB.out hb)
   have d16:=bl_cell hb b16;have d17:=bl_cell hb b17;have d18:=bl_cell hb b18
   clear hb b16 b17 b18 HR HB
   go_wp2_with fail
   refine (HU.out _).mono ?_
   rintro e w2 ⟨rfl,hb⟩
   have HR2:=Lib.hid (HR1.out.up hb);have HB2:=Lib.hid (up_trans HB1.out hb)
   have e17:=bl_cell hb d17;have e18:=bl_cell hb d18
   clear hb d16 d17 d18 HR1 HB1
   go_wp2_with fail
   refine (KY.out _).mono ?_
   rintro e w3 ⟨rfl,hb⟩
   have R3:=HR2.out.up hb;have B3:=up_trans HB2.out hb
   clear hb e17 e18
   have r0:=R3.cell 0 rfl;have r1:=R3.cell 1 rfl;have r2:=R3.cell 2 rfl;have rf:=R3.free
   clear R3
   go_wp2
   refine bodyPost_ret (v:=.agg #[.int .i64 6,.int .i64 0,.int .i64 H]) (by simp [results,Try.results7,go_sem,r0,r1,r2]) rfl ⟨rfl,?_⟩
   exact up_set (up_set (up_set B3 (by simp only;omega) _) (by simp only;omega) _) (by simp only;omega) _
 ·obtain ⟨rfl,rfl,rfl⟩:=Z.out rfl
  go_enter Try.func7,Try.ntmps7
  go_wp2_with fail
  refine (HP.out _).mono ?_
  rintro e w1 ⟨rfl,hb⟩
  have R1:=HR.out.up hb;have B1:=up_trans HB.out hb
  clear hb b16 b17 b18 HR HB
  have r0:=R1.cell 0 rfl;have r1:=R1.cell 1 rfl;have r2:=R1.cell 2 rfl;have rf:=R1.free
  clear R1
  go_wp2
  refine bodyPost_ret (v:=.agg #[.int .i64 0,.int .i64 0,.int .i64 0]) (by simp [results,Try.results7,go_sem,r0,r1,r2]) rfl ⟨rfl,?_⟩
  exact up_set (up_set (up_set B1 (by simp only;omega) _) (by simp only;omega) _) (by simp only;omega) _
theorem plates_zero (s:Int):(platesS s==0)=!styB s:=by
 unfold platesS
 cases styB s
 ·rfl
 ·simp only [if_true]
  split<;>rfl
theorem styFlip:StyFlip:=fun cs j w hj=>by
 have h:=hj.numC
 refine styFlip_core cs (j.n 11) (j.n 12) (j.n 13) (platesS (j.n 11)) _ _ _ _ (acrB (j.n 11)) w hj.length (h 11 (by decide)) (h 12 (by decide)) (h 13 (by decide)) (plates_zero _) ?_ ?_ ?_ (fun w1=>styPlates_all _ w1) (fun w1=>styUpends_any _ w1)
 all_goals
  unfold flipS
  cases styB (j.n 11)<;>cases acrB (j.n 11)<;>simp
set_option maxHeartbeats 1000000 in
theorem styArea_core (cs:List Value) (s W H sd gr ta p m q v o0 o1 o2 o3:Int) (z a:Bool) (w:World) (hL:cs.length=33) (c16:cs[16]?=some (.int .i64 s)) (c17:cs[17]?=some (.int .i64 W)) (c18:cs[18]?=some (.int .i64 H)) (c19:cs[19]?=some (.int .i64 sd)) (c20:cs[20]?=some (.int .i64 gr)) (c21:cs[21]?=some (.int .i64 ta)) (hz:(p==0)=z)
  (hm:max gr ta=m) (hq:IntKind.i64.wrap (W-sd)=q) (hv:(if a=true then IntKind.i64.wrap (H-m) else IntKind.i64.wrap (H-ta))=v)
  (hzero:z=true→0=o0∧0=o1∧0=o2∧0=o3) (ho:z=false→sd=o0∧(if a=true then m else gr)=o1∧q=o2∧v=o3)
  (KP:∀ w1,Calls Try.prog 6 #[.int .i64 s] w1 fun e w'=>e=.returned (.int .i64 p)∧Below w1.heap.size w1 w')
  (KU:∀ w1,Calls Try.prog 17 #[.int .i64 s] w1 fun e w'=>e=.returned (.bool a)∧Below w1.heap.size w1 w') :
  Calls Try.prog 9 #[.agg cs.toArray] w fun e w'=>e=.returned (.agg #[.int .i64 o0,.int .i64 o1,.int .i64 o2,.int .i64 o3])∧Below w.heap.size w w':=by
 obtain ⟨X1,R1,B1⟩:=sty_boxes w hL 36 [.int .i64 0,.int .i64 0,.int .i64 0,.int .i64 0]
 have b16:=X1.cell 16 c16;have b17:=X1.cell 17 c17;have b18:=X1.cell 18 c18
 have b19:=X1.cell 19 c19;have b20:=X1.cell 20 c20;have b21:=X1.cell 21 c21
 have HR:=Lib.hid R1;have HB:=Lib.hid B1
 have HP:=Lib.hid KP;have HU:=Lib.hid KU
 have Z:=Lib.hid hzero;have O:=Lib.hid ho;have V:=Lib.hid hv
 clear X1 R1 B1 KP KU hzero ho hv c16 c17 c18 c19 c20 c21 hL
 generalize cs.toArray=ca at *
 cases z
 ·obtain ⟨rfl,O1,rfl,rfl⟩:=O.out rfl
  have O1:=Lib.hid O1
  go_enter Try.func9,Try.ntmps9
  go_wp2_with fail
  refine (HP.out _).mono ?_
  rintro e w1 ⟨rfl,hb⟩
  have HR1:=Lib.hid (HR.out.up hb);have HB1:=Lib.hid (up_trans HB.out hb)
  have d16:=bl_cell hb b16;have d17:=bl_cell hb b17;have d18:=bl_cell hb b18
  have d19:=bl_cell hb b19;have d20:=bl_cell hb b20;have d21:=bl_cell hb b21
  clear hb b16 b17 b18 b19 b20 b21 HR HB
  go_wp2_with fail
  go_region
  go_wp2_with fail
  refine (HU.out _).mono ?_
  rintro e w2 ⟨rfl,hb⟩
  have R2:=HR1.out.drew.up hb;have B2:=up_trans (up_drew HB1.out) hb
  have e17:=bl_cell (up_trans (up_drew (Below.refl _ w1)) hb) d17;have e18:=bl_cell (up_trans (up_drew (Below.refl _ w1)) hb) d18
  have e19:=bl_cell (up_trans (up_drew (Below.refl _ w1)) hb) d19;have e20:=bl_cell (up_trans (up_drew (Below.refl _ w1)) hb) d20;have e21:=bl_cell (up_trans (up_drew (Below.refl _ w1)) hb) d21
  clear hb d16 d17 d18 d19 d20 d21 HR1 HB1
  have r0:=R2.cell 0 rfl;have r1:=R2.cell 1 rfl;have r2:=R2.cell 2 rfl;have r3:=R2.cell 3 rfl;have rf:=R2.free
  clear R2
  cases a
  ·obtain rfl:gr=o1:=O1.out
   have hv:IntKind.i64.wrap (H-ta)=v:=V.out
   go_wp2
   refine bodyPost_ret (v:=.agg #[.int .i64 sd,.int .i64 gr,.int .i64 q,.int .i64 v]) (by simp [results,Try.results9,go_sem,r0,r1,r2,r3]) rfl ⟨rfl,?_⟩
   exact up_set (up_set (up_set (up_set B2 (by simp only;omega) _) (by simp only;omega) _) (by simp only;omega) _) (by simp only;omega) _
  ·obtain rfl:m=o1:=O1.out
   have hv:IntKind.i64.wrap (H-m)=v:=V.out
   go_wp2
   refine bodyPost_ret (v:=.agg #[.int .i64 sd,.int .i64 m,.int .i64 q,.int .i64 v]) (by simp [results,Try.results9,go_sem,r0,r1,r2,r3]) rfl ⟨rfl,?_⟩
   exact up_set (up_set (up_set (up_set B2 (by simp only;omega) _) (by simp only;omega) _) (by simp only;omega) _) (by simp only;omega) _
 ·obtain ⟨rfl,rfl,rfl,rfl⟩:=Z.out rfl
  go_enter Try.func9,Try.ntmps9
  go_wp2_with fail
  refine (HP.out _).mono ?_
  rintro e w1 ⟨rfl,hb⟩
  have R1:=HR.out.up hb;have B1:=up_trans HB.out hb
  clear hb b16 b17 b18 b19 b20 b21 HR HB
  have r0:=R1.cell 0 rfl;have r1:=R1.cell 1 rfl;have r2:=R1.cell 2 rfl;have r3:=R1.cell 3 rfl;have rf:=R1.free
  clear R1
  go_wp2
  refine bodyPost_ret (v:=.agg #[.int .i64 0,.int .i64 0,.int .i64 0,.int .i64 0]) (by simp [results,Try.results9,go_sem,r0,r1,r2,r3]) rfl ⟨rfl,?_⟩
  exact up_set (up_set (up_set (up_set B1 (by simp only;omega) _) (by simp only;omega) _) (by simp only;omega) _) (by simp only;omega) _
theorem styArea:StyArea:=fun cs j w hj=>by
 have h:=hj.numC
 refine styArea_core cs (j.n 11) (j.n 12) (j.n 13) (j.n 14) (j.n 15) (j.n 16) (platesS (j.n 11)) _ _ _ _ _ _ _ _ (acrB (j.n 11)) w hj.length (h 11 (by decide)) (h 12 (by decide)) (h 13 (by decide)) (h 14 (by decide)) (h 15 (by decide)) (h 16 (by decide)) (plates_zero _) rfl rfl rfl ?_ ?_ (fun w1=>styPlates_all _ w1) (fun w1=>styUpends_any _ w1)
 all_goals
  unfold areaS lowS topS
  cases styB (j.n 11)<;>cases acrB (j.n 11)<;>simp [w64]
set_option maxHeartbeats 1000000 in
theorem styRegion_core (cs:List Value) (s W H A0 A1 A2 A3 hw hh mw mh o2 o3:Int) (a b:Bool) (w:World) (hL:cs.length=33) (c16:cs[16]?=some (.int .i64 s)) (c17:cs[17]?=some (.int .i64 W)) (c18:cs[18]?=some (.int .i64 H))
  (ea:(s==3)=a) (eb:(s==4)=b) (hab:(a&&b)=false) (hmw:min A2 hw=mw) (hmh:min A3 hh=mh) (h2:(if a=true then mw else A2)=o2) (h3:(if b=true then mh else A3)=o3)
  (KA:∀ w1,Below w.heap.size w w1→Calls Try.prog 9 #[.agg cs.toArray] w1 fun e w'=>e=.returned (.agg #[.int .i64 A0,.int .i64 A1,.int .i64 A2,.int .i64 A3])∧Below w1.heap.size w1 w')
  (KW:∀ w1,Calls Try.prog 21 #[.int .i64 W] w1 fun e w'=>e=.returned (.int .i64 hw)∧Below w1.heap.size w1 w')
  (KH:∀ w1,Calls Try.prog 21 #[.int .i64 H] w1 fun e w'=>e=.returned (.int .i64 hh)∧Below w1.heap.size w1 w') :
  Calls Try.prog 11 #[.agg cs.toArray] w fun e w'=>e=.returned (.agg #[.int .i64 A0,.int .i64 A1,.int .i64 o2,.int .i64 o3])∧Below w.heap.size w w':=by
 obtain ⟨X1,R1,B1⟩:=sty_boxes w hL 36 [.int .i64 0,.int .i64 0,.int .i64 0,.int .i64 0]
 have HX:=Lib.hid X1;have HR:=Lib.hid R1;have HB:=Lib.hid B1
 have HL:=Lib.hid hL;have HA:=Lib.hid KA;have HW:=Lib.hid KW;have HH:=Lib.hid KH
 have E2:=Lib.hid h2;have E3:=Lib.hid h3;have H16:=Lib.hid c16;have H17:=Lib.hid c17;have H18:=Lib.hid c18
 clear X1 R1 B1 KA KW KH h2 h3 c16 c17 c18 hL
 go_enter Try.func11,Try.ntmps11
 go_wp2_with (refine wpList_load_job rfl _ rfl w.heap.size rfl cs HX.out HL.out ?_;simp only [Act.put,List.setIfInBounds_toArray,List.set_cons_succ,List.set_cons_zero])
 refine (HA.out _ HB.out).mono ?_
 rintro e w1 ⟨rfl,hb⟩
 have U2:=up_alloc (Below.refl _ w1) (.cells #[.int .i64 A0,.int .i64 A1,.int .i64 A2,.int .i64 A3] 36)
 have S2:=Bx.new w1 36 [.int .i64 A0,.int .i64 A1,.int .i64 A2,.int .i64 A3]
 have X2:=(HX.out.later (by rw [HL.out];decide) hb).later (by rw [HL.out];decide) U2
 have R2:=(HR.out.up hb).up U2
 have B2:=up_trans (up_trans HB.out hb) U2
 have hlow:=(HR.out.up hb).lt
 have b16:=X2.cell 16 H16.out
 have HX2:=Lib.hid X2;have HS2:=Lib.hid S2;have HR2:=Lib.hid R2;have HB2:=Lib.hid B2
 clear hb U2 HX HR HB X2 S2 R2 B2
 cases a<;>cases b
 ·obtain rfl:A2=o2:=E2.out
  obtain rfl:A3=o3:=E3.out
  go_upto_region 2 with fail
  obtain ⟨w2,hw2⟩:∃ w2,w1.alloc (.cells #[.int .i64 A0,.int .i64 A1,.int .i64 A2,.int .i64 A3] 36)=w2:=⟨_,rfl⟩
  rw [hw2] at HX2 HS2 HR2 HB2 b16 ⊢
  clear hw2
  have q0:=HS2.out.cell 0 rfl;have q1:=HS2.out.cell 1 rfl;have q2:=HS2.out.cell 2 rfl;have q3:=HS2.out.cell 3 rfl
  have r0:=HR2.out.cell 0 rfl;have r1:=HR2.out.cell 1 rfl;have r2:=HR2.out.cell 2 rfl;have r3:=HR2.out.cell 3 rfl;have rf:=HR2.out.free
  go_wp2
  refine bodyPost_ret (v:=.agg #[.int .i64 A0,.int .i64 A1,.int .i64 _,.int .i64 _]) (by simp [results,Try.results11,go_sem,r0,r1,r2,r3]) rfl ⟨rfl,?_⟩
  exact up_set (up_set (up_set (up_set HB2.out (by simp only;omega) _) (by simp only;omega) _) (by simp only;omega) _) (by simp only;omega) _
 ·obtain rfl:A2=o2:=E2.out
  obtain rfl:mh=o3:=E3.out
  go_wp2_with fail
  obtain ⟨w2,hw2⟩:∃ w2,w1.alloc (.cells #[.int .i64 A0,.int .i64 A1,.int .i64 A2,.int .i64 A3] 36)=w2:=⟨_,rfl⟩
  rw [hw2] at HX2 HS2 HR2 HB2 b16 ⊢
  clear hw2
  have j3:=fun y:Later w2=>y.cell (HX2.out.cell 18 H18.out);have k3:=fun y:Later w2=>y.cell (HS2.out.cell 3 rfl)
  refine later_start (w:=w2) ?_
  intro y
  refine wp_region_later_tail 7 (by kernel_rfl) (by kernel_rfl) ?_
  simp only [List.take_succ_cons,List.take_zero,List.drop_succ_cons,List.drop_zero]
  repeat (go_big_quiet_step ((go_at_call 21;with_reducible exact Later.call (HH.out _))))
  refine wpQuiet_nil ?_
  rintro _ ⟨y2,rfl⟩
  have S3:=HS2.out.up y2.up;have R3:=HR2.out.up y2.up;have B3:=up_trans HB2.out y2.up
  clear j3 k3 b16
  generalize y2.now=w3 at *
  have HR4:=Lib.hid (R3.far (p:=⟨w1.heap.size,3,none⟩) (by simp only;omega) (.int .i64 mh))
  have S4:=S3.set 3 (.int .i64 mh)
  have HB4:=Lib.hid (up_set B3 (p:=⟨w1.heap.size,3,none⟩) (by simp only;omega) (.int .i64 mh))
  have sf:=S3.free;have sc:=S3.cell 3 rfl
  have q0:=S4.cell 0 rfl;have q1:=S4.cell 1 rfl;have q2:=S4.cell 2 rfl;have q3:=S4.cell 3 rfl
  have r0:=R3.cell 0 rfl;have r1:=R3.cell 1 rfl;have r2:=R3.cell 2 rfl;have r3:=R3.cell 3 rfl;have rf:=R3.free
  clear S3 R3 S4
  go_wp2
  refine bodyPost_ret (v:=.agg #[.int .i64 A0,.int .i64 A1,.int .i64 _,.int .i64 _]) (by simp [results,Try.results11,go_sem,r0,r1,r2,r3]) rfl ⟨rfl,?_⟩
  exact up_set (up_set (up_set (up_set HB4.out (by simp only;omega) _) (by simp only;omega) _) (by simp only;omega) _) (by simp only;omega) _
 ·obtain rfl:mw=o2:=E2.out
  obtain rfl:A3=o3:=E3.out
  go_wp2_with fail
  obtain ⟨w2,hw2⟩:∃ w2,w1.alloc (.cells #[.int .i64 A0,.int .i64 A1,.int .i64 A2,.int .i64 A3] 36)=w2:=⟨_,rfl⟩
  rw [hw2] at HX2 HS2 HR2 HB2 b16 ⊢
  clear hw2
  have j2:=fun y:Later w2=>y.cell (HX2.out.cell 17 H17.out);have k2:=fun y:Later w2=>y.cell (HS2.out.cell 2 rfl)
  refine later_start (w:=w2) ?_
  intro y
  refine wp_region_later_tail 7 (by kernel_rfl) (by kernel_rfl) ?_
  simp only [List.take_succ_cons,List.take_zero,List.drop_succ_cons,List.drop_zero]
  repeat (go_big_quiet_step ((go_at_call 21;with_reducible exact Later.call (HW.out _))))
  refine wpQuiet_nil ?_
  rintro _ ⟨y2,rfl⟩
  have S3:=HS2.out.up y2.up;have R3:=HR2.out.up y2.up;have B3:=up_trans HB2.out y2.up
  clear j2 k2 b16
  generalize y2.now=w3 at *
  have HR4:=Lib.hid (R3.far (p:=⟨w1.heap.size,2,none⟩) (by simp only;omega) (.int .i64 mw))
  have S4:=S3.set 2 (.int .i64 mw)
  have HB4:=Lib.hid (up_set B3 (p:=⟨w1.heap.size,2,none⟩) (by simp only;omega) (.int .i64 mw))
  have sf:=S3.free;have sc:=S3.cell 2 rfl
  have q0:=S4.cell 0 rfl;have q1:=S4.cell 1 rfl;have q2:=S4.cell 2 rfl;have q3:=S4.cell 3 rfl
  have r0:=R3.cell 0 rfl;have r1:=R3.cell 1 rfl;have r2:=R3.cell 2 rfl;have r3:=R3.cell 3 rfl;have rf:=R3.free
  clear S3 R3 S4
  go_wp2
  refine bodyPost_ret (v:=.agg #[.int .i64 A0,.int .i64 A1,.int .i64 _,.int .i64 _]) (by simp [results,Try.results11,go_sem,r0,r1,r2,r3]) rfl ⟨rfl,?_⟩
  exact up_set (up_set (up_set (up_set HB4.out (by simp only;omega) _) (by simp only;omega) _) (by simp only;omega) _) (by simp only;omega) _
 ·exact absurd hab (by decide)
theorem styRegion:StyRegion:=fun cs j w hj hn=>by
 have h:=hj.numC
 refine styRegion_core cs (j.n 11) (j.n 12) (j.n 13) (areaS j.n).1 (areaS j.n).2.1 (areaS j.n).2.2.1 (areaS j.n).2.2.2 (j.n 12 / 2) (j.n 13 / 2) _ _ _ _ _ _ w hj.length (h 11 (by decide)) (h 12 (by decide)) (h 13 (by decide)) rfl rfl ?_ rfl rfl ?_ ?_ (fun w1 hb=>styArea cs j w1 (hj.up hb)) (fun w1=>styHalf_any _ w1 (hn 12)) (fun w1=>styHalf_any _ w1 (hn 13))
 ·rw [Bool.and_eq_false_iff]
  simp only [beq_eq_false_iff_ne]
  omega
 ·unfold regionS
  simp only [beq_iff_eq]
  split
  ·exact Int.min_comm _ _
  ·rfl
 ·unfold regionS
  simp only [beq_iff_eq]
  split
  ·exact Int.min_comm _ _
  ·rfl
def emp4 (x0 y0 x1 y1:Int):Bool:=decide (x1≤x0) || decide (y1≤y0)
theorem ret_boolB {b c:Bool} (h:b=c):Ending.returned (.bool b)=.returned (.bool c):=by rw [h]
theorem refEmpty_any (x0 y0 x1 y1:Int) (w:World) :
  Calls Try.prog 14 #[.agg #[.int .i64 x0,.int .i64 y0,.int .i64 x1,.int .i64 y1]] w fun e w'=>e=.returned (.bool (emp4 x0 y0 x1 y1))∧w'=w.alloc (.cells #[.int .i64 x0,.int .i64 y0,.int .i64 x1,.int .i64 y1] 36):=by
 by_cases h:x1≤x0
 all_goals
  go_enter Try.func14,Try.ntmps14
  go_wp2
  go_ret
  exact ⟨ret_boolB (by simp [emp4];try omega),rfl⟩
theorem refEmpty_b (x0 y0 x1 y1:Int) (w:World) :
  Calls Try.prog 14 #[.agg #[.int .i64 x0,.int .i64 y0,.int .i64 x1,.int .i64 y1]] w fun e w'=>e=.returned (.bool (emp4 x0 y0 x1 y1))∧Below w.heap.size w w' :=
 (refEmpty_any x0 y0 x1 y1 w).mono fun _ _ ⟨he,hw⟩=>⟨he,by rw [hw];exact up_alloc (Below.refl _ _) _⟩
set_option maxRecDepth 100000 in
set_option maxHeartbeats 4000000 in
theorem styFlips_core (cs:List Value) (X Y P Q F0 F1 F2 A0 A1 A2 A3:Int) (u:Bool) (w:World) (hL:cs.length=33)
    (KA:∀ w1,Below w.heap.size w w1→Calls Try.prog 5 #[] w1 fun e w'=>e=.returned (.bool true)∧Below w1.heap.size w1 w')
    (KF:∀ w1,Below w.heap.size w w1→Calls Try.prog 7 #[.agg cs.toArray] w1 fun e w'=>e=.returned (.agg #[.int .i64 F0,.int .i64 F1,.int .i64 F2])∧Below w1.heap.size w1 w')
    (KX:∀ w1,Below w.heap.size w w1→Calls Try.prog 9 #[.agg cs.toArray] w1 fun e w'=>e=.returned (.agg #[.int .i64 A0,.int .i64 A1,.int .i64 A2,.int .i64 A3])∧Below w1.heap.size w1 w')
    (K1:∀ w1,Calls Try.prog 13 #[.agg #[.int .i64 F0,.int .i64 F1,.int .i64 F2],.agg #[.int .i64 X,.int .i64 Y]] w1 fun e w'=>e=.returned (.agg #[.int .i64 P,.int .i64 Q])∧Below w1.heap.size w1 w')
    (K2:∀ w1,Calls Try.prog 13 #[.agg #[.int .i64 F0,.int .i64 F1,.int .i64 F2],.agg #[.int .i64 P,.int .i64 Q]] w1 fun e w'=>e=.returned (.agg #[.int .i64 X,.int .i64 Y])∧Below w1.heap.size w1 w')
    (KE:∀ w1,Calls Try.prog 14 #[.agg #[.int .i64 A0,.int .i64 A1,.int .i64 A2,.int .i64 A3]] w1 fun e w'=>e=.returned (.bool u)∧Below w1.heap.size w1 w')
    (KB:u=false→∀ w1,Calls Try.prog 15 #[.agg #[.int .i64 F0,.int .i64 F1,.int .i64 F2],.agg #[.int .i64 A0,.int .i64 A1,.int .i64 A2,.int .i64 A3]] w1 fun e w'=>e=.returned (.agg #[.int .i64 A0,.int .i64 A1,.int .i64 A2,.int .i64 A3])∧Below w1.heap.size w1 w') :
    Calls Try.prog 4 #[.agg cs.toArray,.agg #[.int .i64 X,.int .i64 Y]] w fun e w'=>e=.returned (.bool true)∧Below w.heap.size w w':=by
  have U1:=up_alloc (Below.refl w.heap.size w) (.cells cs.toArray 29)
  have U2:=up_alloc (Below.refl _ (w.alloc (.cells cs.toArray 29))) (.cells #[.int .i64 X,.int .i64 Y] 23)
  have HX:=Lib.hid ((Bx.new w 29 cs).later (by rw [hL];decide) U2)
  have Y0:=Bx.new (w.alloc (.cells cs.toArray 29)) 23 [.int .i64 X,.int .i64 Y]
  rw [World.size_alloc] at Y0
  have HY:=Lib.hid Y0
  have HB:=Lib.hid (up_trans U1 U2)
  have HL:=Lib.hid hL
  have HA:=Lib.hid KA;have HF:=Lib.hid KF;have HAr:=Lib.hid KX;have H1:=Lib.hid K1;have H2:=Lib.hid K2;have HE:=Lib.hid KE;have HBo:=Lib.hid KB
  clear hL U1 U2 Y0 KA KF KX K1 K2 KE KB
  go_enter Try.func4,Try.ntmps4
  go_wp2_with fail
  refine (HA.out _ HB.out).mono ?_
  rintro e w1 ⟨rfl,hb⟩
  have X1:=Lib.hid (HX.out.later (by rw [HL.out];decide) hb)
  have Y1:=Lib.hid (HY.out.up hb)
  have B1:=Lib.hid (up_trans HB.out hb)
  clear hb HX HY HB
  go_wp2_with (refine wpList_load_job rfl _ rfl w.heap.size rfl cs X1.out HL.out ?_;simp only [Act.put,List.setIfInBounds_toArray,List.set_cons_succ,List.set_cons_zero])
  refine (HF.out _ B1.out).mono ?_
  rintro e w2 ⟨rfl,hb⟩
  have U3:=up_alloc (Below.refl _ w2) (.cells #[.int .i64 F0,.int .i64 F1,.int .i64 F2] 33)
  have P3:=Bx.new w2 33 [.int .i64 F0,.int .i64 F1,.int .i64 F2]
  have X3:=(X1.out.later (by rw [HL.out];decide) hb).later (by rw [HL.out];decide) U3
  have Y3:=(Y1.out.up hb).up U3
  have B3:=Lib.hid (up_trans (up_trans B1.out hb) U3)
  clear hb U3 X1 Y1 B1
  go_wp2_with fail
  obtain ⟨w3,hw3⟩:∃ w3,w2.alloc (.cells #[.int .i64 F0,.int .i64 F1,.int .i64 F2] 33)=w3:=⟨_,rfl⟩
  rw [hw3] at P3 X3 Y3 B3 ⊢
  have f0:=fun u:Later w3=>u.cell (P3.cell 0 rfl);have f1:=fun u:Later w3=>u.cell (P3.cell 1 rfl);have f2:=fun u:Later w3=>u.cell (P3.cell 2 rfl)
  have p0:=fun u:Later w3=>u.cell (Y3.cell 0 rfl);have p1:=fun u:Later w3=>u.cell (Y3.cell 1 rfl)
  have HRG:=Lib.hid (later_range X3 (by rw [HL.out];decide))
  have k2:=fun w=>run_eq2 X Y w
  have k4:=fun w=>run_eq4 A0 A1 A2 A3 w
  clear hw3 P3 X3 Y3
  cases u
  · have KB:=HBo.out (by trivial)
    have HBx:=Lib.hid KB
    clear KB HBo
    refine later_start (w:=w3) ?_
    intro y
    refine wp_region_later (by kernel_rfl) (by kernel_rfl) ?_
    repeat (first
      | (go_big_quiet_want;refine quiet_load_job _ rfl w.heap.size rfl cs HL.out HRG.out ?_;simp only [Act.put,List.setIfInBounds_toArray,List.set_cons_succ,List.set_cons_zero];go_big_quiet_on)
      | go_big_quiet_step (first
        | (go_at_call 13;first | with_reducible exact Later.call (H1.out _) | with_reducible exact Later.call (H2.out _))
        | (go_at_call 9;with_reducible exact Later.call (HAr.out _ (up_trans B3.out (Later.up _))))
        | (go_at_call 14;with_reducible exact Later.call (HE.out _))
        | (go_at_call 15;with_reducible exact Later.call (HBx.out _))))
    refine wpQuiet_nil ?_
    rintro _ ⟨y2,rfl⟩
    have BB:=Lib.hid (up_trans B3.out y2.up)
    clear f0 f1 f2 p0 p1
    go_wp2
    go_ret
    exact ⟨rfl,BB.out⟩
  · have HBx:=HBo
    clear HBo
    refine later_start (w:=w3) ?_
    intro y
    refine wp_region_later (by kernel_rfl) (by kernel_rfl) ?_
    repeat (first
      | (go_big_quiet_want;refine quiet_load_job _ rfl w.heap.size rfl cs HL.out HRG.out ?_;simp only [Act.put,List.setIfInBounds_toArray,List.set_cons_succ,List.set_cons_zero];go_big_quiet_on)
      | go_big_quiet_step (first
        | (go_at_call 13;first | with_reducible exact Later.call (H1.out _) | with_reducible exact Later.call (H2.out _))
        | (go_at_call 9;with_reducible exact Later.call (HAr.out _ (up_trans B3.out (Later.up _))))
        | (go_at_call 14;with_reducible exact Later.call (HE.out _))
        | (go_at_call 15;with_reducible exact Later.call (HBx.out _))))
    refine wpQuiet_nil ?_
    rintro _ ⟨y2,rfl⟩
    have BB:=Lib.hid (up_trans B3.out y2.up)
    clear f0 f1 f2 p0 p1
    go_wp2
    go_ret
    exact ⟨rfl,BB.out⟩
theorem flip_twice (n:Nat→Int) (X Y:Int) (hX:I64 X) (hY:I64 Y):pdo (flipS n).1 (flipS n).2.1 (flipS n).2.2 (pdo (flipS n).1 (flipS n).2.1 (flipS n).2.2 X Y).1 (pdo (flipS n).1 (flipS n).2.1 (flipS n).2.2 X Y).2=(X,Y):=by
  have z:∀ V,I64 V→w64 (V+0)=V:=fun V h=>by rw [Int.add_zero];exact w64_self h
  have t:∀ V S,I64 V→w64 (w64 (-w64 (w64 (-V)+S))+S)=V:=fun V S h=>by
    rw [w64_addL,w64_addL]
    have e:w64 (-w64 (-V+S)+S)=w64 (-(-V+S)+S):=by
      refine w64_same ?_
      have:=w64_rounds (-V+S)
      omega
    rw [e,show -(-V+S)+S=V by omega]
    exact w64_self h
  unfold flipS
  split
  · split
    · refine Prod.ext_iff.2 ⟨?_,?_⟩
      · show w64 (w64 (X+0)+0)=X
        rw [z X hX,z X hX]
      · exact t Y (n 13) hY
    · refine Prod.ext_iff.2 ⟨?_,?_⟩
      · exact t X (n 12) hX
      · show w64 (w64 (Y+0)+0)=Y
        rw [z Y hY,z Y hY]
  · refine Prod.ext_iff.2 ⟨?_,?_⟩
    · show w64 (w64 (X+0)+0)=X
      rw [z X hX,z X hX]
    · show w64 (w64 (Y+0)+0)=Y
      rw [z Y hY,z Y hY]
theorem flip_area (n:Nat→Int) (hn:∀ i,I64 (n i)) (he:emp4 (areaS n).1 (areaS n).2.1 (areaS n).2.2.1 (areaS n).2.2.2=false) :
    (min (pdo (flipS n).1 (flipS n).2.1 (flipS n).2.2 (areaS n).1 (areaS n).2.1).1 (pdo (flipS n).1 (flipS n).2.1 (flipS n).2.2 (areaS n).2.2.1 (areaS n).2.2.2).1,
     min (pdo (flipS n).1 (flipS n).2.1 (flipS n).2.2 (areaS n).1 (areaS n).2.1).2 (pdo (flipS n).1 (flipS n).2.1 (flipS n).2.2 (areaS n).2.2.1 (areaS n).2.2.2).2,
     max (pdo (flipS n).1 (flipS n).2.1 (flipS n).2.2 (areaS n).1 (areaS n).2.1).1 (pdo (flipS n).1 (flipS n).2.1 (flipS n).2.2 (areaS n).2.2.1 (areaS n).2.2.2).1,
     max (pdo (flipS n).1 (flipS n).2.1 (flipS n).2.2 (areaS n).1 (areaS n).2.1).2 (pdo (flipS n).1 (flipS n).2.1 (flipS n).2.2 (areaS n).2.2.1 (areaS n).2.2.2).2)=areaS n:=by
  have z:∀ V,I64 V→w64 (V+0)=V:=fun V h=>by rw [Int.add_zero];exact w64_self h
  have a:∀ V S,w64 (w64 (-V)+S)=w64 (S-V):=fun V S=>by rw [w64_addL];congr 1;omega
  have b:∀ V S,I64 V→w64 (w64 (-w64 (S-V))+S)=V:=fun V S h=>by
    rw [w64_addL]
    have e:w64 (-w64 (S-V)+S)=w64 (-(S-V)+S):=by
      refine w64_same ?_
      have:=w64_rounds (S-V)
      omega
    rw [e,show -(S-V)+S=V by omega]
    exact w64_self h
  have hmax:I64 (max (n 15) (n 16)):=by
    have h1:=hn 15;have h2:=hn 16
    unfold I64 at *
    omega
  unfold emp4 at he
  unfold areaS flipS lowS topS at *
  cases hs:styB (n 11)
  · simp [hs] at he
  · cases ha:acrB (n 11)
    · simp only [hs,ha,if_true,Bool.false_eq_true,if_false] at he ⊢
      have e1:pdo 4 (n 12) 0 (n 14) (n 15)=(w64 (n 12-n 14),n 15):=Prod.ext_iff.2 ⟨a _ _,z _ (hn 15)⟩
      have e2:pdo 4 (n 12) 0 (w64 (n 12-n 14)) (w64 (n 13-n 16))=(n 14,w64 (n 13-n 16)):=Prod.ext_iff.2 ⟨b _ _ (hn 14),z _ (w64_in _)⟩
      rw [e1,e2]
      simp only [Bool.or_eq_false_iff,decide_eq_false_iff_not] at he
      simp only [Prod.mk.injEq]
      omega
    · simp only [hs,ha,if_true] at he ⊢
      have e1:pdo 6 0 (n 13) (n 14) (max (n 15) (n 16))=(n 14,w64 (n 13-max (n 15) (n 16))):=Prod.ext_iff.2 ⟨z _ (hn 14),a _ _⟩
      have e2:pdo 6 0 (n 13) (w64 (n 12-n 14)) (w64 (n 13-max (n 15) (n 16)))=(w64 (n 12-n 14),max (n 15) (n 16)):=Prod.ext_iff.2 ⟨z _ (w64_in _),b _ _ hmax⟩
      rw [e1,e2]
      simp only [Bool.or_eq_false_iff,decide_eq_false_iff_not] at he
      simp only [Prod.mk.injEq]
      omega
theorem area_in (n:Nat→Int) (hn:∀ i,I64 (n i)):I64 (areaS n).1∧I64 (areaS n).2.1∧I64 (areaS n).2.2.1∧I64 (areaS n).2.2.2:=by
  have h14:=hn 14;have h15:=hn 15;have h16:=hn 16
  unfold areaS lowS topS
  split
  · refine ⟨h14,?_,w64_in _,?_⟩
    · simp only
      unfold I64 at *
      split<;>omega
    · simp only
      split<;>exact w64_in _
  · unfold I64
    simp only
    omega
theorem i64_wf {x:Int} (h:I64 x):(Lit.int .i64 x).wf=true:=by
  unfold I64 at h
  simp [Lit.wf,IntKind.min,IntKind.max,IntKind.bits,IntKind.signed]
  omega
theorem walkStyleFlipsK (KP:StyPlates) (KF:StyFlip) (KX:StyArea) (cs:List Value) (j:Jb) (X Y:Int) (w:World) (h:(JobA w cs j∧j.t.length≤maxLen∧∀ p∈j.ls,p.length≤maxLen)∧∀ i,-9223372036854775808≤j.n i∧j.n i≤9223372036854775807) (x0:(Lit.int .i64 X).wf=true) (x1:(Lit.int .i64 Y).wf=true) :
    Calls Try.prog 4 #[.agg cs.toArray,.agg #[.int .i64 X,.int .i64 Y]] w fun e w'=>e=.returned (.bool true)∧Below w.heap.size w w':=by
  have hJ:=h.1.1
  have hN:=hJ.numC
  have hL:=hJ.length
  have ix:=wf_i64 x0;have iy:=wf_i64 x1
  have K2:=fun w1=>refPdo_any (flipS j.n).1 (flipS j.n).2.1 (flipS j.n).2.2 (pdo (flipS j.n).1 (flipS j.n).2.1 (flipS j.n).2.2 X Y).1 (pdo (flipS j.n).1 (flipS j.n).2.1 (flipS j.n).2.2 X Y).2 w1 (w64_in _).1 (w64_in _).2 (w64_in _).1 (w64_in _).2
  rw [flip_twice j.n X Y ix iy] at K2
  obtain ⟨a0,a1,a2,a3⟩:=area_in j.n h.2
  refine styFlips_core cs X Y _ _ (flipS j.n).1 (flipS j.n).2.1 (flipS j.n).2.2 (areaS j.n).1 (areaS j.n).2.1 (areaS j.n).2.2.1 (areaS j.n).2.2.2 _ w hL (fun w1 hb=>styAlive_any KP KF w1) (fun w1 hb=>KF cs j w1 (hJ.up hb)) (fun w1 hb=>KX cs j w1 (hJ.up hb))
    (fun w1=>refPdo_any _ _ _ X Y w1 ix.1 ix.2 iy.1 iy.2) K2 (fun w1=>refEmpty_b _ _ _ _ w1) (fun hu w1=>?_)
  have K:=refPbox_any (flipS j.n).1 (flipS j.n).2.1 (flipS j.n).2.2 (areaS j.n).1 (areaS j.n).2.1 (areaS j.n).2.2.1 (areaS j.n).2.2.2 w1 (i64_wf a0) (i64_wf a1) (i64_wf a2) (i64_wf a3)
  have e:=flip_area j.n h.2 hu
  rw [Prod.ext_iff,Prod.ext_iff,Prod.ext_iff] at e
  simp only at e
  rw [e.1,e.2.1,e.2.2.1,e.2.2.2] at K
  exact K
end Go.Proofs.Ytobpfncglbhcmaa
