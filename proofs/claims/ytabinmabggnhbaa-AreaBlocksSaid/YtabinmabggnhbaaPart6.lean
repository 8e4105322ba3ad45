/- Part 6 of the texts that the proofs of this seat share: AreaLie, NumMath, NumBits, NumGuess, NumFloor, StyleCode, PanelCode, StillRun, BoundsNums, BoundsFirst. -/
import Derived.Test.YtabinmabggnhbaaPart5
import Derived.Laws.BitsAllLaws
import Derived.Test.YtabinmabggnhbaaProg
import Derived.WalkKit
import Derived.WalkSpells
import Derived.WalkLawsBesides
import Derived.Lib.Hide
import Derived.Outline
import Derived.Lib.Mul64
import Derived.Deep.Light
import Derived.Lib.BitFns
import Derived.Lib.ItoaNum
import Derived.Deep.QuietTactic
import Derived.BigQuiet
import Derived.Test.YtabinmabggnhbaaPart1
import Derived.RowKit3
import Derived.OpenShut
import Derived.Test.YtabinmabggnhbaaPart4
import Derived.Test.YtabinmabggnhbaaPart3
import Derived.Deep.DeepCutAuto
import Derived.Test.YtabinmabggnhbaaPart2
set_option linter.unusedSectionVars false
set_option linter.unusedSimpArgs false
set_option linter.unusedVariables false
namespace Go.Proofs.Ytabinmabggnhbaa
open Go.RowKit
theorem first_neg (n:Nat→Int):(firstJ n==-1)=decide (firstJ n<0):=by
 rw [Bool.eq_iff_iff]
 simp only [beq_iff_eq,decide_eq_true_eq]
 unfold firstJ
 split<;>omega
def lieA (n:Nat→Int) (c r:Int):Int×Int×Int×Int:=boxOf (n 20,0,0) 0 0 (w64 (0+blkW n c)) (w64 (0+blkH n r))
theorem lie_facts {n:Nat→Int} {c r:Int} (h:mayA n c r=true) :
  w64 ((lieA n c r).2.2.1-(lieA n c r).1)=outW n c r∧w64 ((lieA n c r).2.2.2-(lieA n c r).2.1)=outH n c r ∧
  (lieA n c r).1=(if n 20=1∨n 20=2 then -outW n c r else 0)∧(lieA n c r).2.1=(if n 20=2∨n 20=3 then -outH n c r else 0):=by
 obtain ⟨⟨w1,w2⟩,v1,v2⟩:=blk_bounds h
 have hq:=turn_ways (may_parts h).1
 have ht:turnedA n=(decide (n 20=1) || decide (n 20=3)):=mod_two (by omega)
 obtain ⟨p0,p1,p2,p3⟩:=pdo_small 0 0 0 0 (by omega) (by omega) (by omega) (by omega)
 obtain ⟨q0,q1,q2,q3⟩:=pdo_small (blkW n c) (blkH n r) 0 0 (by omega) (by omega) (by omega) (by omega)
 have eW:w64 (0+blkW n c)=blkW n c:=(tiny64 (x:=0+blkW n c) (by omega)).trans (Int.zero_add _)
 have eH:w64 (0+blkH n r)=blkH n r:=(tiny64 (x:=0+blkH n r) (by omega)).trans (Int.zero_add _)
 unfold lieA outW outH boxOf
 rw [ht,eW,eH]
 simp only
 rcases hq with e | e | e | e
 ·rw [e,p0,q0]
  simp only [Int.reduceEq,decide_false,Bool.or_self,Bool.false_eq_true,if_false,or_self]
  refine ⟨?_,?_,?_,?_⟩
  ·rw [tiny64 (by omega)];omega
  ·rw [tiny64 (by omega)];omega
  ·omega
  ·omega
 ·rw [e,p1,q1]
  simp only [Int.reduceEq,decide_false,decide_true,Bool.or_false,Bool.or_true,if_true,if_false,or_self,true_or,or_true]
  refine ⟨?_,?_,?_,?_⟩
  ·rw [tiny64 (by omega)];omega
  ·rw [tiny64 (by omega)];omega
  ·omega
  ·omega
 ·rw [e,p2,q2]
  simp only [Int.reduceEq,decide_false,Bool.or_self,Bool.false_eq_true,if_true,if_false,or_self,true_or,or_true]
  refine ⟨?_,?_,?_,?_⟩
  ·rw [tiny64 (by omega)];omega
  ·rw [tiny64 (by omega)];omega
  ·omega
  ·omega
 ·rw [e,p3,q3]
  simp only [Int.reduceEq,decide_false,decide_true,Bool.or_false,Bool.or_true,if_true,if_false,or_self,true_or,or_true]
  refine ⟨?_,?_,?_,?_⟩
  ·rw [tiny64 (by omega)];omega
  ·rw [tiny64 (by omega)];omega
  ·omega
  ·omega
def goX (n:Nat→Int) (c r:Int):Int:=w64 (w64 ((regionS n).1+w64 (roomX n-outW n c r) / 2)-(lieA n c r).1)
def goY (n:Nat→Int) (c r:Int):Int:=w64 (w64 ((regionS n).2.1+w64 (roomY n-outH n c r) / 2)-(lieA n c r).2.1)
theorem at_way {n:Nat→Int} {c r:Int} (h:mayA n c r=true):thenP (n 20,0,0) (0,goX n c r,goY n c r)=atA n c r:=by
 have hq:=turn_ways (may_parts h).1
 obtain ⟨-,-,l0,l1⟩:=lie_facts h
 have t0:thenT (n 20) 0=n 20:=by rcases hq with e | e | e | e<;>rw [e]<;>decide
 show (thenT (n 20) 0,w64 (0+goX n c r),w64 (0+goY n c r))=atA n c r
 unfold atA goX goY
 rw [t0,l0,l1,Int.zero_add,Int.zero_add,w64_w64,w64_w64]
 unfold atX atY
 refine Prod.ext_iff.2 ⟨rfl,Prod.ext_iff.2 ⟨?_,?_⟩⟩
 ·simp only
  split
  ·rw [Int.sub_neg]
  ·rw [Int.sub_zero,w64_w64]
 ·simp only
  split
  ·rw [Int.sub_neg]
  ·rw [Int.sub_zero,w64_w64]
theorem fits_left {n:Nat→Int} {c r:Int} (h:mayA n c r=true):(decide (0≤w64 (roomX n-outW n c r))&&decide (0≤w64 (roomY n-outH n c r)))=fitsA n c r:=by
 obtain ⟨⟨w1,w2⟩,v1,v2⟩:=blk_bounds h
 obtain ⟨r0,⟨r1,r2⟩,⟨r3,r4⟩,⟨r5,r6⟩,-⟩:=region_small (may_parts h).1
 obtain ⟨-,-,-,-,n14,-⟩:=area_nums (may_parts h).1
 have eX:roomX n=(regionS n).2.2.1-(regionS n).1:=tiny64 (by omega)
 have eY:roomY n=(regionS n).2.2.2-(regionS n).2.1:=tiny64 (by omega)
 have oW:1≤outW n c r∧outW n c r≤2000000000:=by unfold outW;split<;>omega
 have oH:1≤outH n c r∧outH n c r≤2000000000:=by unfold outH;split<;>omega
 unfold fitsA
 rw [tiny64 (x:=roomX n-outW n c r) (by omega),tiny64 (x:=roomY n-outH n c r) (by omega),Bool.eq_iff_iff]
 simp only [Bool.and_eq_true,decide_eq_true_eq]
 omega
end Go.Proofs.Ytabinmabggnhbaa
namespace Go.Proofs.Ytabinmabggnhbaa.NumMath
def Prod (a b:Int) (k:Nat) (hi lo:Int):Prop :=
 0≤hi∧hi<18446744073709551616∧0≤lo∧lo<18446744073709551616∧hi*18446744073709551616+lo=a*(b / 2 ^ k)
section
variable (a b hi lo:Int) (k:Nat) (a0:0≤a) (a1:a<18446744073709551616) (b0:0≤b) (b1:b<18446744073709551616) (h:Prod a b (k+1) hi lo)
include a0 a1 b0 b1 h
end
def Quot (n c:Int) (i:Nat) (hi lo qh ql r:Int):Prop :=
 0≤hi∧hi<18446744073709551616∧0≤lo∧lo<18446744073709551616∧0≤qh∧qh<18446744073709551616∧0≤ql∧ql<18446744073709551616∧0≤r∧r<c ∧
 n*2 ^ i=((qh*18446744073709551616+ql)*c+r)*340282366920938463463374607431768211456+(hi*18446744073709551616+lo)
section
variable (n c hi lo qh ql r:Int) (i:Nat) (hi1:i+1≤128) (n0:0≤n) (n1:n<340282366920938463463374607431768211456) (c0:1≤c) (c1:c≤9223372036854775808) (h:Quot n c i hi lo qh ql r)
include hi1 n0 n1 c0 c1 h
end
def sz (n:Int):Int:=if n<0 then -n else n
theorem sz_bd (n:Int) (h0:-9223372036854775808≤n) (h1:n≤9223372036854775807):0≤sz n∧sz n≤9223372036854775808:=by unfold sz;split<;>omega
theorem sz_pos (n:Int) (h:n≠0):1≤sz n:=by unfold sz;split<;>omega
def fl (p c:Int):Int:=if 0<c then p / c else (-p) / (-c)
def fits (n:Int):Bool:=decide (-9223372036854775808≤n)&&decide (n≤9223372036854775807)
def opt (n:Int):Int×Bool:=if fits n=true then (n,true) else (0,false)
def md (a b c:Int):Int×Bool:=if c=0 then (0,false) else opt (fl (a*b) c)
def neg3 (a b c:Int):Bool:=(decide (a<0) != decide (b<0)) != decide (c<0)
theorem div_of (C N Q R:Int) (h:N=Q*C+R) (r0:0≤R) (r1:R<C):N / C=Q:=by
 rw [h,Int.add_comm,Int.add_mul_ediv_right _ _ (by omega),Int.ediv_eq_zero_of_lt r0 r1];simp
theorem div_neg_of (C N Q R:Int) (h:N=Q*C+R) (r0:0≤R) (r1:R<C):(-N) / C=if R=0 then -Q else -(Q+1):=by
 split
 ·refine div_of C (-N) (-Q) 0 ?_ (by omega) (by omega)
  rw [h,Int.neg_mul];omega
 ·refine div_of C (-N) (-(Q+1)) (C-R) ?_ (by omega) (by omega)
  rw [h,Int.neg_mul,Int.add_mul];omega
theorem mul_sign (a b:Int):a*b=if (decide (a<0) != decide (b<0))=true then -(sz a*sz b) else sz a*sz b:=by
 unfold sz
 by_cases ha:a<0<;>by_cases hb:b<0<;>simp [ha,hb,Int.neg_mul,Int.mul_neg]
theorem fl_eq (a b c Q R:Int) (hc:c≠0) (hN:sz a*sz b=Q*sz c+R) (r0:0≤R) (r1:R<sz c) :
  fl (a*b) c=if neg3 a b c=true then (if R=0 then -Q else -(Q+1)) else Q:=by
 have k1:=div_of (sz c) _ Q R hN r0 r1
 have k2:=div_neg_of (sz c) _ Q R hN r0 r1
 clear hN r0 r1
 rw [mul_sign]
 unfold neg3
 by_cases hd:c<0
 ·have e:sz c=-c:=by simp [sz,hd]
  have hp:¬ 0<c:=by omega
  rw [e] at k1 k2
  unfold fl
  cases hx:(decide (a<0) != decide (b<0))<;>simp [hd,hp,k1,k2]
 ·have e:sz c=c:=by simp [sz,hd]
  have hp:0<c:=by omega
  rw [e] at k1 k2
  unfold fl
  cases hx:(decide (a<0) != decide (b<0))<;>simp [hd,hp,k1,k2]
theorem opt_yes (n:Int) (h0:-9223372036854775808≤n) (h1:n≤9223372036854775807):opt n=(n,true):=by
 unfold opt fits;rw [if_pos (by simp;omega)]
theorem opt_no (n:Int) (h:n < -9223372036854775808∨9223372036854775807<n):opt n=(0,false):=by
 unfold opt fits;rw [if_neg (by simp;omega)]
def sgN (m:Int) (below:Bool):Int×Bool:=opt (if below=true then -m else m)
section
variable (a b c Q R:Int) (hc:c≠0) (hN:sz a*sz b=Q*sz c+R) (r0:0≤R) (r1:R<sz c)
include hc hN r0 r1
theorem md_plus (t:neg3 a b c=false):md a b c=sgN Q false:=by
 unfold md sgN;rw [if_neg hc,fl_eq a b c Q R hc hN r0 r1,t];simp
theorem md_minus (t:neg3 a b c=true) (z:R=0):md a b c=sgN Q true:=by
 unfold md sgN;rw [if_neg hc,fl_eq a b c Q R hc hN r0 r1,t,z];simp
theorem md_less (t:neg3 a b c=true) (z:R≠0):md a b c=sgN (Q+1) true:=by
 unfold md sgN;rw [if_neg hc,fl_eq a b c Q R hc hN r0 r1,t,if_pos rfl,if_neg z];simp
end
theorem sg_plus (m:Int) (h0:0≤m) (h1:m≤9223372036854775807):sgN m false=(m,true):=by unfold sgN;simp;exact opt_yes _ (by omega) (by omega)
theorem sg_plus_no (m:Int) (h1:9223372036854775807<m):sgN m false=(0,false):=by unfold sgN;simp;exact opt_no _ (by omega)
theorem sg_minus (m:Int) (h0:0≤m) (h1:m≤9223372036854775808):sgN m true=(-m,true):=by unfold sgN;simp;exact opt_yes _ (by omega) (by omega)
theorem sg_minus_no (m:Int) (h1:9223372036854775808<m):sgN m true=(0,false):=by unfold sgN;simp;exact opt_no _ (by omega)
theorem md_all (a b c Q R:Int) (hc:c≠0) (hN:sz a*sz b=Q*sz c+R) (q0:0≤Q) (r0:0≤R) (r1:R<sz c) :
  (neg3 a b c=false→(Q≤9223372036854775807→md a b c=(Q,true))∧(9223372036854775807<Q→md a b c=(0,false))) ∧
  (neg3 a b c=true→(R≤0→Q≤9223372036854775808→md a b c=(-Q,true))∧(R≤0→9223372036854775808<Q→md a b c=(0,false)) ∧
   (0<R→Q+1≤9223372036854775808→md a b c=(-(Q+1),true))∧(0<R→9223372036854775808<Q+1→md a b c=(0,false))):=by
 refine ⟨fun t=>⟨fun h=>?_,fun h=>?_⟩,fun t=>⟨fun z h=>?_,fun z h=>?_,fun z h=>?_,fun z h=>?_⟩⟩
 ·rw [md_plus a b c Q R hc hN r0 r1 t,sg_plus _ q0 h]
 ·rw [md_plus a b c Q R hc hN r0 r1 t,sg_plus_no _ h]
 ·rw [md_minus a b c Q R hc hN r0 r1 t (by omega),sg_minus _ q0 h]
 ·rw [md_minus a b c Q R hc hN r0 r1 t (by omega),sg_minus_no _ h]
 ·rw [md_less a b c Q R hc hN r0 r1 t (by omega),sg_minus _ (by omega) h]
 ·rw [md_less a b c Q R hc hN r0 r1 t (by omega),sg_minus_no _ h]
end Go.Proofs.Ytabinmabggnhbaa.NumMath
namespace Go.Proofs.Ytabinmabggnhbaa
open Go.RowKit NumMath
theorem ret_pair {n:Int} {t:Bool} {p:Int×Bool} (h:p=(n,t)):Ending.returned (.tuple #[.int .i64 n,.bool t])=.returned (.tuple #[.int .i64 p.1,.bool p.2]):=by rw [h]
theorem pair_eq {p:Int×Bool} {n m:Int} {t:Bool} (h:p=(n,t)) (e:n=m):p=(m,t):=by rw [h,e]
end Go.Proofs.Ytabinmabggnhbaa
namespace Go.Proofs.Ytabinmabggnhbaa.NumMath
def Gq (u v1 v0 d q r:Int):Prop:=q*v1=u-r∧0≤r∧r<4294967296∧0≤q∧q≤4294967297∧r*4294967296+d<q*v0+v1*4294967296+v0
section
variable (u v1 v0 d:Int) (a0:2147483648≤v1) (a1:v1<4294967296) (b0:0≤v0) (b1:v0<4294967296) (d0:0≤d) (d1:d<4294967296) (u0:0≤u) (u1:u<v1*4294967296+v0)
include a0 a1 b0 b1 d0 d1 u0 u1
variable (q r:Int) (h:Gq u v1 v0 d q r)
include h
end
end Go.Proofs.Ytabinmabggnhbaa.NumMath
namespace Go.Proofs.Ytabinmabggnhbaa
open Go.RowKit NumMath
theorem tdiv_sz (a b:Int) (hb:b≠0):a.tdiv b=(if (decide (a<0)==decide (b<0))=true then sz a / sz b else -(sz a / sz b))∧a.tmod b=(if a<0 then -(sz a%sz b) else sz a%sz b):=by
 unfold sz
 by_cases ha:a<0<;>by_cases h:b<0
 ·have e1:a.tdiv b=(-a) / (-b):=by rw [←Int.tdiv_eq_ediv_of_nonneg (by omega),Int.neg_tdiv,Int.tdiv_neg,Int.neg_neg]
  have e2:a.tmod b=-((-a)%(-b)):=by rw [←Int.tmod_eq_emod_of_nonneg (by omega),Int.neg_tmod,Int.tmod_neg,Int.neg_neg]
  simp [ha,h,e1,e2]
 ·have e1:a.tdiv b=-((-a) / b):=by rw [←Int.tdiv_eq_ediv_of_nonneg (by omega),Int.neg_tdiv,Int.neg_neg]
  have e2:a.tmod b=-((-a)%b):=by rw [←Int.tmod_eq_emod_of_nonneg (by omega),Int.neg_tmod,Int.neg_neg]
  simp [ha,h,e1,e2]
 ·have e1:a.tdiv b=-(a / (-b)):=by rw [←Int.tdiv_eq_ediv_of_nonneg (by omega),Int.tdiv_neg,Int.neg_neg]
  have e2:a.tmod b=a%(-b):=by rw [←Int.tmod_eq_emod_of_nonneg (by omega),Int.tmod_neg]
  simp [ha,h,e1,e2]
 ·have e1:a.tdiv b=a / b:=Int.tdiv_eq_ediv_of_nonneg (by omega)
  have e2:a.tmod b=a%b:=Int.tmod_eq_emod_of_nonneg (by omega)
  simp [ha,h,e1,e2]
theorem sz_div (a b:Int) (a0:-9223372036854775808≤a) (a1:a≤9223372036854775807) (hb:b≠0) :
  ∃ Q R:Int,sz a / sz b=Q∧sz a%sz b=R∧0≤Q∧Q≤9223372036854775808∧0≤R∧R<sz b∧sz a=Q*sz b+R∧(2≤sz b→Q≤4611686018427387904):=by
 have p:=sz_pos b hb
 obtain ⟨x0,x1⟩:=sz_bd a a0 a1
 have m:=Int.mul_ediv_add_emod (sz a) (sz b)
 have m0:=Int.emod_nonneg (sz a) (by omega:sz b≠0)
 have m1:=Int.emod_lt_of_pos (sz a) (by omega:0<sz b)
 have q0:0≤sz a / sz b:=Int.ediv_nonneg x0 (by omega)
 have q1:sz a / sz b≤sz a:=Int.ediv_le_self _ x0
 rw [Int.mul_comm] at m
 refine ⟨_,_,rfl,rfl,q0,by omega,m0,m1,m.symm,fun h=>?_⟩
 have:=Int.mul_le_mul_of_nonneg_left h q0
 omega
set_option maxHeartbeats 1000000 in
theorem floor_any (a b:Int) (w:World) (a0:-9223372036854775808≤a) (a1:a≤9223372036854775807) (b0:-9223372036854775808≤b) (b1:b≤9223372036854775807) :
  Calls Try.prog 62 #[.int .i64 a,.int .i64 b] w fun e w'=>e=.returned (.tuple #[.int .i64 (md a 1 b).1,.bool (md a 1 b).2])∧w=w':=by
 by_cases hb:b=0
 ·subst hb
  have H:=Lib.hid (show md a 1 0=(0,false) from rfl)
  go_enter Try.func62,Try.ntmps62
  go_wp2
  go_ret2
  exact ⟨ret_pair H.out,rfl⟩
 by_cases hx:a=-9223372036854775808∧b=-1
 ·obtain ⟨rfl,rfl⟩:=hx
  have H:=Lib.hid (show md (-9223372036854775808) 1 (-1)=(0,false) by decide)
  go_enter Try.func62,Try.ntmps62
  go_wp2
  go_ret2
  exact ⟨ret_pair H.out,rfl⟩
 obtain ⟨Q,R,eQ,eR,q0,q1,r0,r1,e,q2⟩:=sz_div a b a0 a1 hb
 obtain ⟨t1,t2⟩:=tdiv_sz a b hb
 rw [eQ] at t1
 rw [eR] at t2
 have s1:sz 1=1:=rfl
 have eN:sz a*sz 1=Q*sz b+R:=by rw [s1];omega
 have F:=Lib.hid (md_all a 1 b Q R hb eN q0 r0 r1)
 obtain ⟨t,ht⟩:∃ t,a.tdiv b=t:=⟨_,rfl⟩
 obtain ⟨m,hm⟩:∃ m,a.tmod b=m:=⟨_,rfl⟩
 rw [ht] at t1
 rw [hm] at t2
 have mr:(m=0∧R=0)∨(m≠0∧0<R∧2≤sz b):=by
  by_cases hR:R=0
  ·left;refine ⟨?_,hR⟩;rw [t2,hR];split<;>rfl
  ·right;refine ⟨?_,by omega,by omega⟩;rw [t2];split<;>omega
 have hz:(b==0)=false:=by simpa using hb
 have bb:sz b=1→b=1∨b=-1:=by unfold sz;split<;>omega
 obtain ⟨g,hg⟩:∃ g,neg3 a 1 b=g:=⟨_,rfl⟩
 have ng:(decide (a<0)==decide (b<0))=!g:=by rw [←hg];simp only [neg3];cases decide (a<0)<;>cases decide (b<0)<;>rfl
 rw [ng] at t1
 cases g
 ·
  have tq:t=Q:=by rw [t1];simp
  have qs:Q≤9223372036854775807:=by
   refine Int.not_lt.1 fun h=>hx ?_
   have h2:¬ 2≤sz b:=fun h3=>by have:=q2 h3;omega
   have:=sz_pos b hb
   have sb:sz b=1:=by omega
   rw [sb] at e
   have sa:sz a=9223372036854775808:=by omega
   have aa:a=-9223372036854775808:=by unfold sz at sa;split at sa<;>omega
   refine ⟨aa,?_⟩
   rcases bb sb with h4 | h4
   ·exfalso;rw [aa,h4] at ng;simp at ng
   ·exact h4
  have H:=Lib.hid ((F.out.1 hg).1 qs)
  have TQ:=Lib.hid tq
  have tb:0≤t∧t≤9223372036854775807:=by omega
  obtain ⟨tb0,tb1⟩:=tb
  have ng2:(decide (a<0)==decide (b<0))=true:=ng
  have mr2:m=0∨m≠0:=by omega
  clear F t1 t2 eN e s1 tq eQ eR ng mr bb q2 hg
  by_cases ha:a=-9223372036854775808
  ·have k1:(a==-9223372036854775808)=true:=by simpa using ha
   have k2:(b==-1)=false:=by simp;omega
   clear ha hx
   rcases mr2 with rfl | mz
   ·go_enter Try.func62,Try.ntmps62
    go_wp2
    go_ret2
    exact ⟨ret_pair (pair_eq H.out TQ.out.symm),rfl⟩
   ·go_enter Try.func62,Try.ntmps62
    go_wp2
    go_ret2
    exact ⟨ret_pair (pair_eq H.out TQ.out.symm),rfl⟩
  ·have k1:(a==-9223372036854775808)=false:=by simpa using ha
   clear ha hx
   rcases mr2 with rfl | mz
   ·go_enter Try.func62,Try.ntmps62
    go_wp2
    go_ret2
    exact ⟨ret_pair (pair_eq H.out TQ.out.symm),rfl⟩
   ·go_enter Try.func62,Try.ntmps62
    go_wp2
    go_ret2
    exact ⟨ret_pair (pair_eq H.out TQ.out.symm),rfl⟩
 ·have tq:t=-Q:=by rw [t1];simp
  have TQ:=Lib.hid tq
  have ng2:(decide (a<0)==decide (b<0))=false:=ng
  have H:(m=0∧-9223372036854775808≤t∧t≤0∧md a 1 b=(-Q,true))∨(m≠0∧-4611686018427387904≤t∧t≤0∧md a 1 b=(-(Q+1),true)):=by
   rcases mr with ⟨h1,h2⟩ | ⟨h1,h2,h3⟩
   ·left;exact ⟨h1,by omega,by omega,(F.out.2 hg).1 (by omega) (by omega)⟩
   ·right;have:=q2 h3;exact ⟨h1,by omega,by omega,(F.out.2 hg).2.2.1 (by omega) (by omega)⟩
  clear F t1 t2 eN e s1 tq eQ eR ng mr bb q2 hg
  rcases H with ⟨rfl,tb0,tb1,h⟩ | ⟨mz,tb0,tb1,h⟩
  ·have H:=Lib.hid h;clear h
   by_cases ha:a=-9223372036854775808
   ·have k1:(a==-9223372036854775808)=true:=by simpa using ha
    have k2:(b==-1)=false:=by simp;omega
    clear ha hx
    go_enter Try.func62,Try.ntmps62
    go_wp2
    go_ret2
    exact ⟨ret_pair (pair_eq H.out TQ.out.symm),rfl⟩
   ·have k1:(a==-9223372036854775808)=false:=by simpa using ha
    clear ha hx
    go_enter Try.func62,Try.ntmps62
    go_wp2
    go_ret2
    exact ⟨ret_pair (pair_eq H.out TQ.out.symm),rfl⟩
  ·have H:=Lib.hid h;clear h
   by_cases ha:a=-9223372036854775808
   ·have k1:(a==-9223372036854775808)=true:=by simpa using ha
    have k2:(b==-1)=false:=by simp;omega
    clear ha hx
    go_enter Try.func62,Try.ntmps62
    go_wp2
    go_ret2
    exact ⟨ret_pair (pair_eq H.out (by rw [TQ.out];omega)),rfl⟩
   ·have k1:(a==-9223372036854775808)=false:=by simpa using ha
    clear ha hx
    go_enter Try.func62,Try.ntmps62
    go_wp2
    go_ret2
    exact ⟨ret_pair (pair_eq H.out (by rw [TQ.out];omega)),rfl⟩
def rs (a b:Int):Int:=a-b*fl a b
def rest (a b:Int):Int×Bool:=if b=0 then (0,false) else (rs a b,true)
end Go.Proofs.Ytabinmabggnhbaa
namespace Go.Proofs.Ytabinmabggnhbaa
open Go.RowKit
theorem styPlates_core (s o:Int) (a b c d:Bool) (w:World) (e1:(s==1)=a) (e2:(s==2)=b) (e3:(s==3)=c) (e4:(s==4)=d)
  (ho:(if (a || b)=true then 2 else if (c || d)=true then 1 else 0)=o) :
  Calls Try.prog 38 #[.int .i64 s] w fun e w'=>e=.returned (.int .i64 o)∧Below w.heap.size w w':=by
 have HO:=Lib.hid ho
 clear ho
 cases a<;>cases b<;>cases c<;>cases d
 all_goals
  have E:=HO.out
  simp only [Bool.or_self,Bool.or_true,Bool.or_false,Bool.true_or,Bool.false_or,Bool.false_eq_true,if_true,if_false] at E
  subst E
  clear HO
  go_enter Try.func38,Try.ntmps38
  go_wp2
  go_ret
  exact ⟨rfl,Below.refl _ _⟩
theorem styPlates_all (s:Int) (w:World):Calls Try.prog 38 #[.int .i64 s] w fun e w'=>e=.returned (.int .i64 (platesS s))∧Below w.heap.size w w':=by
 refine styPlates_core s (platesS s) _ _ _ _ w rfl rfl rfl rfl ?_
 unfold platesS styB
 simp only [Bool.or_eq_true,beq_iff_eq,Bool.and_eq_true,decide_eq_true_eq]
 by_cases h1:s=1∨s=2
 ·rw [if_pos h1,if_pos (by omega),if_neg (by omega)]
 ·rw [if_neg h1]
  by_cases h3:s=3∨s=4
  ·rw [if_pos h3,if_pos (by omega),if_pos (by omega)]
  ·rw [if_neg h3,if_neg (by omega)]
theorem styUpends_core (s:Int) (a b:Bool) (w:World) (e2:(s==2)=a) (e4:(s==4)=b) :
  Calls Try.prog 65 #[.int .i64 s] w fun e w'=>e=.returned (.bool (a || b))∧Below w.heap.size w w':=by
 cases a<;>cases b
 all_goals
  go_enter Try.func65,Try.ntmps65
  go_wp2
  go_ret
  exact ⟨rfl,Below.refl _ _⟩
theorem styUpends_any (s:Int) (w:World):Calls Try.prog 65 #[.int .i64 s] w fun e w'=>e=.returned (.bool (acrB s))∧Below w.heap.size w w' :=
 styUpends_core s _ _ w rfl rfl
theorem md_half (n:Int) (h:I64 n):NumMath.md n 1 2=(n / 2,true):=by
 unfold I64 at h
 unfold NumMath.md NumMath.fl
 rw [if_neg (by decide),if_pos (by decide),Int.mul_one]
 exact NumMath.opt_yes _ (by omega) (by omega)
theorem styHalf_any (n:Int) (w:World) (h:I64 n):Calls Try.prog 61 #[.int .i64 n] w fun e w'=>e=.returned (.int .i64 (n / 2))∧Below w.heap.size w w':=by
 have K:=floor_any n 2 w h.1 h.2 (by decide) (by decide)
 rw [md_half n h] at K
 have HK:=Lib.hid K
 obtain ⟨q,hq⟩:∃ q,n / 2=q:=⟨_,rfl⟩
 rw [hq] at HK ⊢
 clear K hq h
 go_enter Try.func61,Try.ntmps61
 go_wp2_with fail
 refine HK.out.mono ?_
 rintro e w1 ⟨rfl,rfl⟩
 go_wp2
 go_ret
 exact ⟨rfl,Below.refl _ _⟩
theorem sty_boxes (w:World) {cs:List Value} (hL:cs.length=33) (T:Nat) (zs:List Value) :
  Bx ((w.alloc (.cells cs.toArray 29)).alloc (.cells zs.toArray T)) w.heap.size cs∧Bx ((w.alloc (.cells cs.toArray 29)).alloc (.cells zs.toArray T)) (w.heap.size+1) zs ∧
  Below w.heap.size w ((w.alloc (.cells cs.toArray 29)).alloc (.cells zs.toArray T)):=by
 have X1:=Bx.new w 29 cs
 have U1:=up_alloc (Below.refl w.heap.size w) (.cells cs.toArray 29)
 have V1:=up_alloc (Below.refl _ (w.alloc (.cells cs.toArray 29))) (.cells zs.toArray T)
 have R1:=Bx.new (w.alloc (.cells cs.toArray 29)) T zs
 rw [World.size_alloc] at R1
 exact ⟨X1.later (by rw [hL];decide) V1,R1,up_trans U1 V1⟩
set_option maxHeartbeats 1000000 in
theorem styFlip_core (cs:List Value) (s W H p o0 o1 o2:Int) (z a:Bool) (w:World) (hL:cs.length=33) (c16:cs[16]?=some (.int .i64 s)) (c17:cs[17]?=some (.int .i64 W)) (c18:cs[18]?=some (.int .i64 H)) (hz:(p==0)=z)
  (hzero:z=true→0=o0∧0=o1∧0=o2) (hy:z=false→a=true→6=o0∧0=o1∧H=o2) (hx:z=false→a=false→4=o0∧W=o1∧0=o2)
  (KP:∀ w1,Calls Try.prog 38 #[.int .i64 s] w1 fun e w'=>e=.returned (.int .i64 p)∧Below w1.heap.size w1 w')
  (KU:∀ w1,Calls Try.prog 65 #[.int .i64 s] w1 fun e w'=>e=.returned (.bool a)∧Below w1.heap.size w1 w') :
  Calls Try.prog 37 #[.agg cs.toArray] w fun e w'=>e=.returned (.agg #[.int .i64 o0,.int .i64 o1,.int .i64 o2])∧Below w.heap.size w w':=by
 obtain ⟨X1,R1,B1⟩:=sty_boxes w hL 35 [.int .i64 0,.int .i64 0,.int .i64 0]
 have b16:=X1.cell 16 c16;have b17:=X1.cell 17 c17;have b18:=X1.cell 18 c18
 have HR:=Lib.hid R1;have HB:=Lib.hid B1
 have HP:=Lib.hid KP;have HU:=Lib.hid KU
 have KX:=Lib.hid (fun w1=>flipX_any W w1);have KY:=Lib.hid (fun w1=>flipY_any H w1)
 have Z:=Lib.hid hzero;have Y:=Lib.hid hy;have X:=Lib.hid hx
 clear X1 R1 B1 KP KU hzero hy hx c16 c17 c18 hL
 generalize cs.toArray=ca at *
 cases z
 ·cases a
  ·obtain ⟨rfl,rfl,rfl⟩:=X.out rfl rfl
   go_enter Try.func37,Try.ntmps37
   go_wp2_with fail
   refine (HP.out _).mono ?_
   rintro e w1 ⟨rfl,hb⟩
   have HR1:=Lib.hid (HR.out.up hb);have HB1:=Lib.hid (up_trans HB.out hb)
   have d16:=bl_cell hb b16;have d17:=bl_cell hb b17;have d18:=bl_cell hb b18
   clear hb b16 b17 b18 HR HB
   go_wp2_with fail
   refine (HU.out _).mono ?_
   rintro e w2 ⟨rfl,hb⟩
   have HR2:=Lib.hid (HR1.out.up hb);have HB2:=Lib.hid (up_trans HB1.out hb)
   have e17:=bl_cell hb d17;have e18:=bl_cell hb d18
   clear hb d16 d17 d18 HR1 HB1
   go_wp2_with fail
   refine (KX.out _).mono ?_
   rintro e w3 ⟨rfl,hb⟩
   have R3:=HR2.out.up hb;have B3:=up_trans HB2.out hb
   clear hb e17 e18
   have r0:=R3.cell 0 rfl;have r1:=R3.cell 1 rfl;have r2:=R3.cell 2 rfl;have rf:=R3.free
   clear R3
   go_wp2
   refine bodyPost_ret (v:=.agg #[.int .i64 4,.int .i64 W,.int .i64 0]) (by simp [results,Try.results37,go_sem,r0,r1,r2]) rfl ⟨rfl,?_⟩
   exact up_set (up_set (up_set B3 (by simp only;omega) _) (by simp only;omega) _) (by simp only;omega) _
  ·obtain ⟨rfl,rfl,rfl⟩:=Y.out rfl rfl
   go_enter Try.func37,Try.ntmps37
   go_wp2_with fail
   refine (HP.out _).mono ?_
   rintro e w1 ⟨rfl,hb⟩
   have HR1:=Lib.hid (HR.out.up hb);have HB1:=Lib.hid (up_trans HB.out hb)
   have d16:=bl_cell hb b16;have d17:=bl_cell hb b17;have d18:=bl_cell hb b18
   clear hb b16 b17 b18 HR HB
   go_wp2_with fail
   refine (HU.out _).mono ?_
   rintro e w2 ⟨rfl,hb⟩
   have HR2:=Lib.hid (HR1.out.up hb);have HB2:=Lib.hid (up_trans HB1.out hb)
   have e17:=bl_cell hb d17;have e18:=bl_cell hb d18
   clear hb d16 d17 d18 HR1 HB1
   go_wp2_with fail
   refine (KY.out _).mono ?_
   rintro e w3 ⟨rfl,hb⟩
   have R3:=HR2.out.up hb;have B3:=up_trans HB2.out hb
   clear hb e17 e18
   have r0:=R3.cell 0 rfl;have r1:=R3.cell 1 rfl;have r2:=R3.cell 2 rfl;have rf:=R3.free
   clear R3
   go_wp2
   refine bodyPost_ret (v:=.agg #[.int .i64 6,.int .i64 0,.int .i64 H]) (by simp [results,Try.results37,go_sem,r0,r1,r2]) rfl ⟨rfl,?_⟩
   exact up_set (up_set (up_set B3 (by simp only;omega) _) (by simp only;omega) _) (by simp only;omega) _
 ·obtain ⟨rfl,rfl,rfl⟩:=Z.out rfl
  go_enter Try.func37,Try.ntmps37
  go_wp2_with fail
  refine (HP.out _).mono ?_
  rintro e w1 ⟨rfl,hb⟩
  have R1:=HR.out.up hb;have B1:=up_trans HB.out hb
  clear hb b16 b17 b18 HR HB
  have r0:=R1.cell 0 rfl;have r1:=R1.cell 1 rfl;have r2:=R1.cell 2 rfl;have rf:=R1.free
  clear R1
  go_wp2
  refine bodyPost_ret (v:=.agg #[.int .i64 0,.int .i64 0,.int .i64 0]) (by simp [results,Try.results37,go_sem,r0,r1,r2]) rfl ⟨rfl,?_⟩
  exact up_set (up_set (up_set B1 (by simp only;omega) _) (by simp only;omega) _) (by simp only;omega) _
theorem plates_zero (s:Int):(platesS s==0)=!styB s:=by
 unfold platesS
 cases styB s
 ·rfl
 ·simp only [if_true]
  split<;>rfl
theorem styFlip:StyFlip:=fun cs j w hj=>by
 have h:=hj.numC
 refine styFlip_core cs (j.n 11) (j.n 12) (j.n 13) (platesS (j.n 11)) _ _ _ _ (acrB (j.n 11)) w hj.length (h 11 (by decide)) (h 12 (by decide)) (h 13 (by decide)) (plates_zero _) ?_ ?_ ?_ (fun w1=>styPlates_all _ w1) (fun w1=>styUpends_any _ w1)
 all_goals
  unfold flipS
  cases styB (j.n 11)<;>cases acrB (j.n 11)<;>simp
set_option maxHeartbeats 1000000 in
theorem styArea_core (cs:List Value) (s W H sd gr ta p m q v o0 o1 o2 o3:Int) (z a:Bool) (w:World) (hL:cs.length=33) (c16:cs[16]?=some (.int .i64 s)) (c17:cs[17]?=some (.int .i64 W)) (c18:cs[18]?=some (.int .i64 H)) (c19:cs[19]?=some (.int .i64 sd)) (c20:cs[20]?=some (.int .i64 gr)) (c21:cs[21]?=some (.int .i64 ta)) (hz:(p==0)=z)
  (hm:max gr ta=m) (hq:IntKind.i64.wrap (W-sd)=q) (hv:(if a=true then IntKind.i64.wrap (H-m) else IntKind.i64.wrap (H-ta))=v)
  (hzero:z=true→0=o0∧0=o1∧0=o2∧0=o3) (ho:z=false→sd=o0∧(if a=true then m else gr)=o1∧q=o2∧v=o3)
  (KP:∀ w1,Calls Try.prog 38 #[.int .i64 s] w1 fun e w'=>e=.returned (.int .i64 p)∧Below w1.heap.size w1 w')
  (KU:∀ w1,Calls Try.prog 65 #[.int .i64 s] w1 fun e w'=>e=.returned (.bool a)∧Below w1.heap.size w1 w') :
  Calls Try.prog 60 #[.agg cs.toArray] w fun e w'=>e=.returned (.agg #[.int .i64 o0,.int .i64 o1,.int .i64 o2,.int .i64 o3])∧Below w.heap.size w w':=by
 obtain ⟨X1,R1,B1⟩:=sty_boxes w hL 40 [.int .i64 0,.int .i64 0,.int .i64 0,.int .i64 0]
 have b16:=X1.cell 16 c16;have b17:=X1.cell 17 c17;have b18:=X1.cell 18 c18
 have b19:=X1.cell 19 c19;have b20:=X1.cell 20 c20;have b21:=X1.cell 21 c21
 have HR:=Lib.hid R1;have HB:=Lib.hid B1
 have HP:=Lib.hid KP;have HU:=Lib.hid KU
 have Z:=Lib.hid hzero;have O:=Lib.hid ho;have V:=Lib.hid hv
 clear X1 R1 B1 KP KU hzero ho hv c16 c17 c18 c19 c20 c21 hL
 generalize cs.toArray=ca at *
 cases z
 ·obtain ⟨rfl,O1,rfl,rfl⟩:=O.out rfl
  have O1:=Lib.hid O1
  go_enter Try.func60,Try.ntmps60
  go_wp2_with fail
  refine (HP.out _).mono ?_
  rintro e w1 ⟨rfl,hb⟩
  have HR1:=Lib.hid (HR.out.up hb);have HB1:=Lib.hid (up_trans HB.out hb)
  have d16:=bl_cell hb b16;have d17:=bl_cell hb b17;have d18:=bl_cell hb b18
  have d19:=bl_cell hb b19;have d20:=bl_cell hb b20;have d21:=bl_cell hb b21
  clear hb b16 b17 b18 b19 b20 b21 HR HB
  go_wp2_with fail
  go_region
  go_wp2_with fail
  refine (HU.out _).mono ?_
  rintro e w2 ⟨rfl,hb⟩
  have R2:=HR1.out.drew.up hb;have B2:=up_trans (up_drew HB1.out) hb
  have e17:=bl_cell (up_trans (up_drew (Below.refl _ w1)) hb) d17;have e18:=bl_cell (up_trans (up_drew (Below.refl _ w1)) hb) d18
  have e19:=bl_cell (up_trans (up_drew (Below.refl _ w1)) hb) d19;have e20:=bl_cell (up_trans (up_drew (Below.refl _ w1)) hb) d20;have e21:=bl_cell (up_trans (up_drew (Below.refl _ w1)) hb) d21
  clear hb d16 d17 d18 d19 d20 d21 HR1 HB1
  have r0:=R2.cell 0 rfl;have r1:=R2.cell 1 rfl;have r2:=R2.cell 2 rfl;have r3:=R2.cell 3 rfl;have rf:=R2.free
  clear R2
  cases a
  ·obtain rfl:gr=o1:=O1.out
   have hv:IntKind.i64.wrap (H-ta)=v:=V.out
   go_wp2
   refine bodyPost_ret (v:=.agg #[.int .i64 sd,.int .i64 gr,.int .i64 q,.int .i64 v]) (by simp [results,Try.results60,go_sem,r0,r1,r2,r3]) rfl ⟨rfl,?_⟩
   exact up_set (up_set (up_set (up_set B2 (by simp only;omega) _) (by simp only;omega) _) (by simp only;omega) _) (by simp only;omega) _
  ·obtain rfl:m=o1:=O1.out
   have hv:IntKind.i64.wrap (H-m)=v:=V.out
   go_wp2
   refine bodyPost_ret (v:=.agg #[.int .i64 sd,.int .i64 m,.int .i64 q,.int .i64 v]) (by simp [results,Try.results60,go_sem,r0,r1,r2,r3]) rfl ⟨rfl,?_⟩
   exact up_set (up_set (up_set (up_set B2 (by simp only;omega) _) (by simp only;omega) _) (by simp only;omega) _) (by simp only;omega) _
 ·obtain ⟨rfl,rfl,rfl,rfl⟩:=Z.out rfl
  go_enter Try.func60,Try.ntmps60
  go_wp2_with fail
  refine (HP.out _).mono ?_
  rintro e w1 ⟨rfl,hb⟩
  have R1:=HR.out.up hb;have B1:=up_trans HB.out hb
  clear hb b16 b17 b18 b19 b20 b21 HR HB
  have r0:=R1.cell 0 rfl;have r1:=R1.cell 1 rfl;have r2:=R1.cell 2 rfl;have r3:=R1.cell 3 rfl;have rf:=R1.free
  clear R1
  go_wp2
  refine bodyPost_ret (v:=.agg #[.int .i64 0,.int .i64 0,.int .i64 0,.int .i64 0]) (by simp [results,Try.results60,go_sem,r0,r1,r2,r3]) rfl ⟨rfl,?_⟩
  exact up_set (up_set (up_set (up_set B1 (by simp only;omega) _) (by simp only;omega) _) (by simp only;omega) _) (by simp only;omega) _
theorem styArea:StyArea:=fun cs j w hj=>by
 have h:=hj.numC
 refine styArea_core cs (j.n 11) (j.n 12) (j.n 13) (j.n 14) (j.n 15) (j.n 16) (platesS (j.n 11)) _ _ _ _ _ _ _ _ (acrB (j.n 11)) w hj.length (h 11 (by decide)) (h 12 (by decide)) (h 13 (by decide)) (h 14 (by decide)) (h 15 (by decide)) (h 16 (by decide)) (plates_zero _) rfl rfl rfl ?_ ?_ (fun w1=>styPlates_all _ w1) (fun w1=>styUpends_any _ w1)
 all_goals
  unfold areaS lowS topS
  cases styB (j.n 11)<;>cases acrB (j.n 11)<;>simp [w64]
set_option maxHeartbeats 1000000 in
theorem styRegion_core (cs:List Value) (s W H A0 A1 A2 A3 hw hh mw mh o2 o3:Int) (a b:Bool) (w:World) (hL:cs.length=33) (c16:cs[16]?=some (.int .i64 s)) (c17:cs[17]?=some (.int .i64 W)) (c18:cs[18]?=some (.int .i64 H))
  (ea:(s==3)=a) (eb:(s==4)=b) (hab:(a&&b)=false) (hmw:min A2 hw=mw) (hmh:min A3 hh=mh) (h2:(if a=true then mw else A2)=o2) (h3:(if b=true then mh else A3)=o3)
  (KA:∀ w1,Below w.heap.size w w1→Calls Try.prog 60 #[.agg cs.toArray] w1 fun e w'=>e=.returned (.agg #[.int .i64 A0,.int .i64 A1,.int .i64 A2,.int .i64 A3])∧Below w1.heap.size w1 w')
  (KW:∀ w1,Calls Try.prog 61 #[.int .i64 W] w1 fun e w'=>e=.returned (.int .i64 hw)∧Below w1.heap.size w1 w')
  (KH:∀ w1,Calls Try.prog 61 #[.int .i64 H] w1 fun e w'=>e=.returned (.int .i64 hh)∧Below w1.heap.size w1 w') :
  Calls Try.prog 33 #[.agg cs.toArray] w fun e w'=>e=.returned (.agg #[.int .i64 A0,.int .i64 A1,.int .i64 o2,.int .i64 o3])∧Below w.heap.size w w':=by
 obtain ⟨X1,R1,B1⟩:=sty_boxes w hL 40 [.int .i64 0,.int .i64 0,.int .i64 0,.int .i64 0]
 have HX:=Lib.hid X1;have HR:=Lib.hid R1;have HB:=Lib.hid B1
 have HL:=Lib.hid hL;have HA:=Lib.hid KA;have HW:=Lib.hid KW;have HH:=Lib.hid KH
 have E2:=Lib.hid h2;have E3:=Lib.hid h3;have H16:=Lib.hid c16;have H17:=Lib.hid c17;have H18:=Lib.hid c18
 clear X1 R1 B1 KA KW KH h2 h3 c16 c17 c18 hL
 go_enter Try.func33,Try.ntmps33
 go_wp2_with (refine wpList_load_job rfl _ rfl w.heap.size rfl cs HX.out HL.out ?_;simp only [Act.put,List.setIfInBounds_toArray,List.set_cons_succ,List.set_cons_zero])
 refine (HA.out _ HB.out).mono ?_
 rintro e w1 ⟨rfl,hb⟩
 have U2:=up_alloc (Below.refl _ w1) (.cells #[.int .i64 A0,.int .i64 A1,.int .i64 A2,.int .i64 A3] 40)
 have S2:=Bx.new w1 40 [.int .i64 A0,.int .i64 A1,.int .i64 A2,.int .i64 A3]
 have X2:=(HX.out.later (by rw [HL.out];decide) hb).later (by rw [HL.out];decide) U2
 have R2:=(HR.out.up hb).up U2
 have B2:=up_trans (up_trans HB.out hb) U2
 have hlow:=(HR.out.up hb).lt
 have b16:=X2.cell 16 H16.out
 have HX2:=Lib.hid X2;have HS2:=Lib.hid S2;have HR2:=Lib.hid R2;have HB2:=Lib.hid B2
 clear hb U2 HX HR HB X2 S2 R2 B2
 cases a<;>cases b
 ·obtain rfl:A2=o2:=E2.out
  obtain rfl:A3=o3:=E3.out
  go_upto_region 2 with fail
  obtain ⟨w2,hw2⟩:∃ w2,w1.alloc (.cells #[.int .i64 A0,.int .i64 A1,.int .i64 A2,.int .i64 A3] 40)=w2:=⟨_,rfl⟩
  rw [hw2] at HX2 HS2 HR2 HB2 b16 ⊢
  clear hw2
  have q0:=HS2.out.cell 0 rfl;have q1:=HS2.out.cell 1 rfl;have q2:=HS2.out.cell 2 rfl;have q3:=HS2.out.cell 3 rfl
  have r0:=HR2.out.cell 0 rfl;have r1:=HR2.out.cell 1 rfl;have r2:=HR2.out.cell 2 rfl;have r3:=HR2.out.cell 3 rfl;have rf:=HR2.out.free
  go_wp2
  refine bodyPost_ret (v:=.agg #[.int .i64 A0,.int .i64 A1,.int .i64 _,.int .i64 _]) (by simp [results,Try.results33,go_sem,r0,r1,r2,r3]) rfl ⟨rfl,?_⟩
  exact up_set (up_set (up_set (up_set HB2.out (by simp only;omega) _) (by simp only;omega) _) (by simp only;omega) _) (by simp only;omega) _
 ·obtain rfl:A2=o2:=E2.out
  obtain rfl:mh=o3:=E3.out
  go_wp2_with fail
  obtain ⟨w2,hw2⟩:∃ w2,w1.alloc (.cells #[.int .i64 A0,.int .i64 A1,.int .i64 A2,.int .i64 A3] 40)=w2:=⟨_,rfl⟩
  rw [hw2] at HX2 HS2 HR2 HB2 b16 ⊢
  clear hw2
  have j3:=fun y:Later w2=>y.cell (HX2.out.cell 18 H18.out);have k3:=fun y:Later w2=>y.cell (HS2.out.cell 3 rfl)
  refine later_start (w:=w2) ?_
  intro y
  refine wp_region_later_tail 7 (by kernel_rfl) (by kernel_rfl) ?_
  simp only [List.take_succ_cons,List.take_zero,List.drop_succ_cons,List.drop_zero]
  repeat (go_big_quiet_step ((go_at_call 61;with_reducible exact Later.call (HH.out _))))
  refine wpQuiet_nil ?_
  rintro _ ⟨y2,rfl⟩
  have S3:=HS2.out.up y2.up;have R3:=HR2.out.up y2.up;have B3:=up_trans HB2.out y2.up
  clear j3 k3 b16
  generalize y2.now=w3 at *
  have HR4:=Lib.hid (R3.far (p:=⟨w1.heap.size,3,none⟩) (by simp only;omega) (.int .i64 mh))
  have S4:=S3.set 3 (.int .i64 mh)
  have HB4:=Lib.hid (up_set B3 (p:=⟨w1.heap.size,3,none⟩) (by simp only;omega) (.int .i64 mh))
  have sf:=S3.free;have sc:=S3.cell 3 rfl
  have q0:=S4.cell 0 rfl;have q1:=S4.cell 1 rfl;have q2:=S4.cell 2 rfl;have q3:=S4.cell 3 rfl
  have r0:=R3.cell 0 rfl;have r1:=R3.cell 1 rfl;have r2:=R3.cell 2 rfl;have r3:=R3.cell 3 rfl;have rf:=R3.free
  clear S3 R3 S4
  go_wp2
  refine bodyPost_ret (v:=.agg #[.int .i64 A0,.int .i64 A1,.int .i64 _,.int .i64 _]) (by simp [results,Try.results33,go_sem,r0,r1,r2,r3]) rfl ⟨rfl,?_⟩
  exact up_set (up_set (up_set (up_set HB4.out (by simp only;omega) _) (by simp only;omega) _) (by simp only;omega) _) (by simp only;omega) _
 ·obtain rfl:mw=o2:=E2.out
  obtain rfl:A3=o3:=E3.out
  go_wp2_with fail
  obtain ⟨w2,hw2⟩:∃ w2,w1.alloc (.cells #[.int .i64 A0,.int .i64 A1,.int .i64 A2,.int .i64 A3] 40)=w2:=⟨_,rfl⟩
  rw [hw2] at HX2 HS2 HR2 HB2 b16 ⊢
  clear hw2
  have j2:=fun y:Later w2=>y.cell (HX2.out.cell 17 H17.out);have k2:=fun y:Later w2=>y.cell (HS2.out.cell 2 rfl)
  refine later_start (w:=w2) ?_
  intro y
  refine wp_region_later_tail 7 (by kernel_rfl) (by kernel_rfl) ?_
  simp only [List.take_succ_cons,List.take_zero,List.drop_succ_cons,List.drop_zero]
  repeat (go_big_quiet_step ((go_at_call 61;with_reducible exact Later.call (HW.out _))))
  refine wpQuiet_nil ?_
  rintro _ ⟨y2,rfl⟩
  have S3:=HS2.out.up y2.up;have R3:=HR2.out.up y2.up;have B3:=up_trans HB2.out y2.up
  clear j2 k2 b16
  generalize y2.now=w3 at *
  have HR4:=Lib.hid (R3.far (p:=⟨w1.heap.size,2,none⟩) (by simp only;omega) (.int .i64 mw))
  have S4:=S3.set 2 (.int .i64 mw)
  have HB4:=Lib.hid (up_set B3 (p:=⟨w1.heap.size,2,none⟩) (by simp only;omega) (.int .i64 mw))
  have sf:=S3.free;have sc:=S3.cell 2 rfl
  have q0:=S4.cell 0 rfl;have q1:=S4.cell 1 rfl;have q2:=S4.cell 2 rfl;have q3:=S4.cell 3 rfl
  have r0:=R3.cell 0 rfl;have r1:=R3.cell 1 rfl;have r2:=R3.cell 2 rfl;have r3:=R3.cell 3 rfl;have rf:=R3.free
  clear S3 R3 S4
  go_wp2
  refine bodyPost_ret (v:=.agg #[.int .i64 A0,.int .i64 A1,.int .i64 _,.int .i64 _]) (by simp [results,Try.results33,go_sem,r0,r1,r2,r3]) rfl ⟨rfl,?_⟩
  exact up_set (up_set (up_set (up_set HB4.out (by simp only;omega) _) (by simp only;omega) _) (by simp only;omega) _) (by simp only;omega) _
 ·exact absurd hab (by decide)
theorem styRegion:StyRegion:=fun cs j w hj hn=>by
 have h:=hj.numC
 refine styRegion_core cs (j.n 11) (j.n 12) (j.n 13) (areaS j.n).1 (areaS j.n).2.1 (areaS j.n).2.2.1 (areaS j.n).2.2.2 (j.n 12 / 2) (j.n 13 / 2) _ _ _ _ _ _ w hj.length (h 11 (by decide)) (h 12 (by decide)) (h 13 (by decide)) rfl rfl ?_ rfl rfl ?_ ?_ (fun w1 hb=>styArea cs j w1 (hj.up hb)) (fun w1=>styHalf_any _ w1 (hn 12)) (fun w1=>styHalf_any _ w1 (hn 13))
 ·rw [Bool.and_eq_false_iff]
  simp only [beq_eq_false_iff_ne]
  omega
 ·unfold regionS
  simp only [beq_iff_eq]
  split
  ·exact Int.min_comm _ _
  ·rfl
 ·unfold regionS
  simp only [beq_iff_eq]
  split
  ·exact Int.min_comm _ _
  ·rfl
theorem panSize_core (cs:List Value) (s a f t h d p1 p2 q1 q2:Int) (w:World) (c10:cs[10]?=some (.int .i64 s)) (c4:cs[4]?=some (.int .i64 a)) (c9:cs[9]?=some (.int .i64 f)) (c8:cs[8]?=some (.int .i64 t)) (c5:cs[5]?=some (.int .i64 h)) (c7:cs[7]?=some (.int .i64 d))
  (e1:IntKind.i64.wrap (s+a)=p1) (e2:IntKind.i64.wrap (p1+f)=p2) (e3:IntKind.i64.wrap (t+h)=q1) (e4:IntKind.i64.wrap (q1+d)=q2) :
  Calls Try.prog 77 #[.agg cs.toArray] w fun e w'=>e=.returned (.tuple #[.int .i64 p2,.int .i64 q2])∧Below w.heap.size w w':=by
 have HX:=Bx.new w 29 cs
 have HB:=Lib.hid (up_alloc (Below.refl w.heap.size w) (.cells cs.toArray 29))
 have b10:=HX.cell 10 c10;have b4:=HX.cell 4 c4;have b9:=HX.cell 9 c9;have b8:=HX.cell 8 c8;have b5:=HX.cell 5 c5;have b7:=HX.cell 7 c7
 clear HX c10 c4 c9 c8 c5 c7
 generalize cs.toArray=ca at *
 go_enter Try.func77,Try.ntmps77
 go_wp2_with fail
 obtain ⟨w1,hw1⟩:∃ w1,w.alloc (.cells ca 29)=w1:=⟨_,rfl⟩
 rw [hw1] at b10 b4 b9 b8 b5 b7 HB ⊢
 clear hw1
 have j10:=fun u:Later w1=>u.cell b10;have j4:=fun u:Later w1=>u.cell b4;have j9:=fun u:Later w1=>u.cell b9
 have j8:=fun u:Later w1=>u.cell b8;have j5:=fun u:Later w1=>u.cell b5;have j7:=fun u:Later w1=>u.cell b7
 clear b10 b4 b9 b8 b5 b7
 refine later_start (w:=w1) ?_
 intro u
 refine wp_region_later (by kernel_rfl) (by kernel_rfl) ?_
 repeat (go_big_quiet_step (fail))
 refine wpQuiet_nil ?_
 rintro _ ⟨u2,rfl⟩
 have BB:=Lib.hid (up_trans HB.out u2.up)
 clear j10 j4 j9 j8 j5 j7
 go_wp2
 go_ret2
 exact ⟨rfl,BB.out⟩
theorem panSize:PanSize:=fun cs j w hj =>
 have h:=hj.numC
 panSize_core cs _ _ _ _ _ _ _ _ _ _ w (h 9 (by decide)) (h 3 (by decide)) (h 8 (by decide)) (h 7 (by decide)) (h 4 (by decide)) (h 6 (by decide)) rfl (sizW_eq j.n) rfl (sizH_eq j.n)
set_option maxHeartbeats 1000000 in
theorem panBlock_core (cs:List Value) (c r k W H a b d:Int) (sa:Option Addr) (sn sc:Nat) (w:World) (hL:cs.length=33) (e1:IntKind.i64.wrap (c*W)=a) (e2:IntKind.i64.wrap (k*r)=b) (e3:IntKind.i64.wrap (b*H)=d)
  (KS:∀ w1,Below w.heap.size w w1→Calls Try.prog 77 #[.agg cs.toArray] w1 fun e w'=>e=.returned (.tuple #[.int .i64 W,.int .i64 H])∧Below w1.heap.size w1 w') :
  Calls Try.prog 53 #[.agg cs.toArray,.agg #[.int .i64 c,.int .i64 r,.slice sa sn sc],.int .i64 k] w fun e w'=>e=.returned (.tuple #[.int .i64 a,.int .i64 d])∧Below w.heap.size w w':=by
 have F0:=Lib.hid (JFr.new w hL c r (.slice sa sn sc))
 have HL:=Lib.hid hL;have HS:=Lib.hid KS
 clear hL KS
 go_enter Try.func53,Try.ntmps53
 go_wp2_with (refine wpList_load_job rfl _ rfl w.heap.size rfl cs F0.out.x HL.out ?_;simp only [Act.put,List.setIfInBounds_toArray,List.set_cons_succ,List.set_cons_zero])
 refine (HS.out _ F0.out.b).mono ?_
 rintro e w1 ⟨rfl,hb⟩
 have F1:=F0.out.up HL.out hb
 have j0:=fun y:Later w1=>y.cell (F1.s.cell 0 rfl);have j1:=fun y:Later w1=>y.cell (F1.s.cell 1 rfl)
 have B1:=Lib.hid F1.b
 clear hb F0 F1
 go_wp2_with fail
 refine later_start (w:=w1) ?_
 intro y
 refine wp_region_later (by kernel_rfl) (by kernel_rfl) ?_
 repeat (go_big_quiet_step (fail))
 refine wpQuiet_nil ?_
 rintro _ ⟨y2,rfl⟩
 have BB:=Lib.hid (up_trans B1.out y2.up)
 clear j0 j1
 go_wp2
 go_ret2
 exact ⟨rfl,BB.out⟩
theorem panBlock:PanBlock:=fun cs j c r k sa sn sc w hj hc hr hk=>by
 refine panBlock_core cs c r k (sizW j.n) (sizH j.n) _ _ _ sa sn sc w hj.length ?_ rfl ?_ (fun w1 hb=>panSize cs j w1 (hj.up hb))
 ·rw [Int.mul_comm];rfl
 ·show w64 (w64 (k*r)*sizH j.n)=_
  rw [w64_mulL,Int.mul_assoc,Int.mul_comm (sizH j.n),Int.mul_right_comm,Int.mul_comm k,Int.mul_assoc,Int.mul_assoc,Int.mul_comm k (sizH j.n)]
def stillSem {α:Type} (P:Program):Sem α→List Value→Option (α×List Value×List (Addr×Value))
 | .pure a,vs=>some (a,vs,[])
 | .program k,vs=>stillSem P (k P) vs
 | .mark _ k,vs=>stillSem P k vs
 | .load _ a k,v :: vs=>(stillSem P (k v) vs).map fun x=>(x.1,x.2.1,(a,v) :: x.2.2)
 | _,_=>none
theorem stillSem_run {α:Type} {P:Program} {m:Sem α} {vs:List Value} {x:α×List Value×List (Addr×Value)} (h:stillSem P m vs=some x) (w:World) (hw:∀ p∈x.2.2,w.cell? p.1=some p.2):m.run P w=.ok x.1 w:=by
 induction m generalizing vs x with
 | pure b=>simp only [stillSem,Option.some.injEq] at h;rw [←h];rfl
 | program k ih=>exact ih P (by simpa only [stillSem] using h) hw
 | mark _ k ih=>exact ih (by simpa only [stillSem] using h) hw
 | load md a k ih =>
  cases vs with
  | nil=>simp only [stillSem] at h;cases h
  | cons v vs =>
   simp only [stillSem,Option.map_eq_some_iff] at h
   obtain ⟨y,hy,rfl⟩:=h
   have h0:w.cell? a=some v:=hw (a,v) (by simp)
   rw [Sem.run,h0]
   exact ih v (x:=y) hy (fun p hp=>hw p (by simp [hp]))
 | _=>simp only [stillSem] at h;cases h
def evalL (s:List Value):Operand→Value
 | .tmp t=>s.getD t undef
 | .const v=>v
 | .global g=>.pointer (some ⟨g,0,none⟩)
 | .func f=>.func (.func f) #[] #[]
theorem evalL_eq (s:List Value) (ds:List Deferred):Act.eval ⟨s.toArray,ds⟩=evalL s:=by
 funext x
 cases x<;>simp [Act.eval,evalL,List.getD]
def forceL {β:Type}:List Value→(List Value→β)→β
 | [],k=>k []
 | x :: xs,k=>forceL xs fun ys=>k (x :: ys)
theorem forceL_eq {β:Type} (l:List Value) (k:List Value→β):forceL l k=k l:=by
 induction l generalizing k with
 | nil=>rfl
 | cons x xs ih=>simp only [forceL,ih]
def stillVal (P:Program) (s:List Value) (o:Oper) (vs:List Value):Option (Value×List Value×List (Addr×Value)) :=
 match stillSem P (execOp (evalL s) o) vs with
 | some (.value v,r,ps)=>some (v,r,ps)
 | _=>none
def stillRun (P:Program):List Oper→List Value→List Value→Option (List Value×List (Addr×Value))
 | [],s,_=>some (s,[])
 | o :: rest,s,vs=>if o.guard.isNone then (match stillVal P s o vs,o.dst with
  | some (v,r,ps),some d=>forceL (s.set d v) fun s'=>(stillRun P rest s' r).map fun x=>(x.1,ps++x.2)
  | _,_=>none) else none
theorem stillRun_cons {P:Program} {o:Oper} {rest:List Oper} {s vs s':List Value} {ps:List (Addr×Value)} (h:stillRun P (o :: rest) s vs=some (s',ps)) :
  o.guard=none∧∃ (v:Value) (d:Nat) (r:List Value) (qs ts:List (Addr×Value)),o.dst=some d∧stillVal P s o vs=some (v,r,qs)∧stillRun P rest (s.set d v) r=some (s',ts)∧ps=qs++ts:=by
 unfold stillRun at h
 split at h
 ·rename_i hg
  have hg':o.guard=none:=by
   cases hh:o.guard with
   | none=>rfl
   | some x=>rw [hh] at hg;cases hg
  refine ⟨hg',?_⟩
  split at h
  ·rename_i v r qs d hv hd
   rw [forceL_eq,Option.map_eq_some_iff] at h
   obtain ⟨x,hx,he⟩:=h
   obtain ⟨rfl,rfl⟩:=Prod.mk.inj he
   exact ⟨v,d,r,qs,x.2,hd,hv,hx,rfl⟩
  ·cases h
 ·cases h
theorem stillVal_run {P:Program} {s vs r:List Value} {o:Oper} {v:Value} {ps:List (Addr×Value)} (ds:List Deferred) (h:stillVal P s o vs=some (v,r,ps)) (w:World) (hw:∀ p∈ps,w.cell? p.1=some p.2) :
  (execOp (Act.eval ⟨s.toArray,ds⟩) o).run P w=.ok (.value v) w:=by
 rw [evalL_eq]
 unfold stillVal at h
 split at h
 ·rename_i u r' ps' hu
  obtain ⟨rfl,e⟩:=Prod.mk.inj (Option.some.inj h)
  obtain ⟨rfl,rfl⟩:=Prod.mk.inj e
  exact stillSem_run hu w hw
 ·cases h
theorem put_still {s:List Value} {ds:List Deferred} {o:Oper} {d:Nat} (hd:o.dst=some d) (v:Value):Act.put ⟨s.toArray,ds⟩ o.dst v=⟨(s.set d v).toArray,ds⟩:=by
 rw [hd]
 simp [Act.put]
theorem want_still {o:Oper} (hg:o.guard=none) (y:Nat→Option Bool):Region.wanted o y=true:=by
 unfold Region.wanted
 rw [hg]
theorem wpQuiet_still {P:Program} {ops:Array Oper} {C:World→Prop} {Q:Act→Prop} {ds:List Deferred} {l m:List Oper} {s vs s':List Value} {ps:List (Addr×Value)}
  (h:stillRun P l s vs=some (s',ps)) (hw:∀ w,C w→∀ p∈ps,w.cell? p.1=some p.2) (hq:wpQuiet P ops C Q m ⟨s'.toArray,ds⟩):wpQuiet P ops C Q (l++m) ⟨s.toArray,ds⟩:=by
 induction l generalizing s vs ps with
 | nil =>
  simp only [stillRun,Option.some.injEq,Prod.mk.injEq] at h
  obtain ⟨rfl,-⟩:=h
  exact hq
 | cons o rest ih =>
  obtain ⟨hg,v,d,r,qs,ts,hd,hv,hr,rfl⟩:=stillRun_cons h
  show wpQuiet P ops C Q (o :: (rest++m)) _
  unfold wpQuiet
  rw [if_pos (want_still hg _)]
  refine ⟨v,fun w hC=>?_,by rw [put_still hd];exact ih hr (fun w hC p hp=>hw w hC p (by simp [hp]))⟩
  unfold Oper.quietAt
  rw [stillVal_run ds hv w (fun p hp=>hw w hC p (by simp [hp]))]
  exact ⟨rfl,rfl⟩
theorem wpQuiet_stills {P:Program} {ops:Array Oper} {C:World→Prop} {Q:Act→Prop} {ds:List Deferred} {l:List Oper} {s vs s':List Value} {ps:List (Addr×Value)}
  (h:stillRun P l s vs=some (s',ps)) (hw:∀ w,C w→∀ p∈ps,w.cell? p.1=some p.2) (hq:wpQuiet P ops C Q [] ⟨s'.toArray,ds⟩):wpQuiet P ops C Q l ⟨s.toArray,ds⟩:=by
 have:=wpQuiet_still (m:=[]) h hw hq
 rwa [List.append_nil] at this
def numC (B i:Nat):List Value:=[.pointer (some ⟨B,cellJ i,none⟩),.int .i64 (lowJ i),.int .i64 (topJ i)]
def numL (B:Nat):List Value:=(List.range 28).flatMap (numC B)
theorem numL_length (B:Nat):(numL B).length=84:=rfl
theorem numL_one (B:Nat):(numL B).toArray.all (·.oneCell')=true:=by
 rw [List.all_toArray];rfl
theorem nums_zero:Try.zeroCells84.size=84:=by kernel_rfl
theorem nums_there (w:World):(w.alloc (.cells Try.zeroCells84 84)).there w.heap.size 0 84:=fun j hj=>by
 rw [Nat.zero_add]
 refine ⟨?_,by simp [go_sem]⟩
 rw [cell_new,Array.getElem?_eq_getElem (by rw [nums_zero];exact hj)]
 rfl
theorem nums_one (B:Nat) {i:Nat} (h:i<28) (w:World):(Instr.index 84 (.agg (numL B).toArray) (.int .i64 (i:Int))).run Try.prog w=.ok (.agg (numC B i).toArray) w:=by
 rcases num_ways h with rfl | rfl | rfl | rfl | rfl | rfl | rfl | rfl | rfl | rfl | rfl | rfl | rfl | rfl | rfl | rfl | rfl | rfl | rfl | rfl | rfl | rfl | rfl | rfl | rfl | rfl | rfl | rfl
 all_goals exact (show _=_ from by kernel_rfl)
abbrev P (B j:Nat):Value:=.pointer (some ⟨B,j,none⟩)
abbrev N (B i:Nat):Value:=.agg (numC B i).toArray
def numF (R B:Nat):List Value :=
 P B 0 :: undef :: P R 0 :: P B 0 :: P B 0 :: P B 1 :: N B 0 :: P B 0 :: P B 0 :: P B 2 :: P B 2 :: N B 1 ::
 P B 0 :: P B 0 :: P B 2 :: P B 3 :: N B 2 :: P B 0 :: P B 0 :: P B 4 :: N B 3 :: P B 0 :: P B 0 :: P B 5 ::
 N B 4 :: P B 0 :: P B 0 :: P B 6 :: N B 5 :: P B 0 :: P B 0 :: P B 7 :: N B 6 :: P B 0 :: P B 0 :: P B 8 ::
 N B 7 :: P B 0 :: P B 0 :: P B 9 :: N B 8 :: P B 0 :: P B 0 :: P B 10 :: N B 9 :: P B 0 :: P B 0 :: P B 11 ::
 N B 10 :: P B 0 :: P B 0 :: P B 16 :: N B 11 :: P B 0 :: P B 0 :: P B 17 :: N B 12 :: P B 0 :: P B 0 :: P B 18 ::
 N B 13 :: P B 0 :: P B 0 :: P B 19 :: N B 14 :: P B 0 :: P B 0 :: P B 20 :: N B 15 :: P B 0 :: P B 0 :: P B 21 ::
 N B 16 :: P B 0 :: P B 0 :: P B 22 :: N B 17 :: P B 0 :: P B 0 :: P B 23 :: N B 18 :: P B 0 :: P B 0 :: P B 24 ::
 N B 19 :: P B 0 :: P B 0 :: P B 25 :: N B 20 :: P B 0 :: P B 0 :: P B 26 :: N B 21 :: P B 0 :: P B 0 :: P B 27 ::
 N B 22 :: P B 0 :: P B 0 :: P B 28 :: N B 23 :: P B 0 :: P B 0 :: P B 29 :: N B 24 :: P B 0 :: P B 0 :: P B 30 ::
 N B 25 :: P B 0 :: P B 0 :: P B 31 :: N B 26 :: P B 0 :: P B 0 :: P B 32 :: N B 27 :: undef :: []
set_option maxRecDepth 100000 in
set_option maxHeartbeats 4000000 in
theorem numbers_any (B:Nat) (w:World):Calls Try.prog 73 #[.pointer (some ⟨B,0,none⟩)] w fun e w'=>e=.returned (.agg (numL B).toArray)∧Below w.heap.size w w':=by
 have hT:=nums_there w
 have HT:=Lib.hid hT
 clear hT
 go_enter Try.func73,Try.ntmps73
 go_wp2
 generalize hw1:w.alloc (.cells Try.zeroCells84 84)=w1 at *
 have HW:=Lib.hid hw1
 clear hw1
 refine later_start (w:=w1) ?_
 intro u
 simp only [List.append]
 refine wp_region_later_tail 114 (by kernel_rfl) (lexTail_quick (by kernel_rfl)) ?_
 simp only [List.take_succ_cons,List.take_zero,List.drop_succ_cons,List.drop_zero]
 refine wpQuiet_stills (vs:=[]) (s':=numF w.heap.size B) (ps:=[]) ?still (fun _ _ _ hp=>by cases hp) ?_
 case still=>kernel_rfl
 refine wpQuiet_nil ?_
 rintro _ ⟨u2,rfl⟩
 have HT2:=Lib.hid (there_up HT.out u2.up)
 have HU:=Lib.hid u2.up
 generalize u2.now=w2 at *
 refine wpList_build_to rfl 84 _ rfl (numL B).toArray (by kernel_rfl) ?_
 refine wpList_store_mid rfl 84 _ _ rfl w.heap.size 0 (numL B).toArray rfl rfl HT2.out (by kernel_rfl) (numL_one B) ?_
 have HR:=Lib.hid (World.rangeAt_setCells_same _ w.heap.size 0 (numL B) (by rw [numL_length];exact HT2.out))
 have HB:=Lib.hid (below_setCells (Nat.le_refl w.heap.size) (numL B) 0 _ (up_trans (by rw [←HW.out];exact up_alloc (Below.refl _ _) _) HU.out))
 generalize w2.setCells w.heap.size 0 (numL B)=w3 at *
 refine wpList_nil ?_
 go_wp2
 exact bodyPost_ret (v:=.agg (numL B).toArray) (results_wide Try.results73 w.heap.size rfl _ _ HR.out Try.underlying84 rfl (by kernel_rfl)) rfl ⟨rfl,HB.out⟩
def FirstRel (w:World) (n:Nat→Int) (i:Value) (wr:World):Prop:=∃ k:Nat,k≤28∧i=.int .i64 (k:Int)∧(∀ j,j<k→okJ n j=true)∧∃ u:Later w,wr=u.now
set_option maxHeartbeats 1000000 in
theorem bFirst_any (cs:List Value) (n:Nat→Int) (w:World) (hl:cs.length=33) (hv:∀ k,k<28→cs[cellJ k]?=some (.int .i64 (n k))) :
  Calls Try.prog 50 #[.agg cs.toArray] w fun e w'=>e=.returned (.int .i64 (firstJ n))∧Below w.heap.size w w':=by
 have HB:=Lib.hid (up_alloc (Below.refl w.heap.size w) (.cells cs.toArray 29))
 have HX:=Lib.hid (Bx.new w 29 cs)
 have HI:=Lib.hid (fun (k:Nat) (hk:k<28)=>show ∀ w1,(Instr.index 84 (.agg (numL w.heap.size).toArray) (.int .i64 (k:Int))).run Try.prog w1=.ok (.agg #[.pointer (some ⟨w.heap.size,cellJ k,none⟩),.int .i64 (lowJ k),.int .i64 (topJ k)]) w1 from fun w1=>nums_one w.heap.size hk w1)
 have HV:=Lib.hid hv
 have HL:=Lib.hid hl
 have HN:=Lib.hid (fun w1=>numbers_any w.heap.size w1)
 generalize (numL w.heap.size).toArray=nl at *
 have HF:=Lib.hid (fun (k:Nat) (hk:k<28) (h:∀ j,j<k→okJ n j=true) (h0:okJ n k=false)=>firstJ_at hk h h0)
 have HZ:=Lib.hid (fun h=>firstJ_none (n:=n) h)
 generalize firstJ n=F at *
 clear hv hl
 go_enter Try.func50,Try.ntmps50
 go_wp2_with fail
 refine (HN.out _).mono ?_
 rintro e w1 ⟨rfl,hb⟩
 have HX1:=Lib.hid (HX.out.later (by rw [HL.out];decide) hb)
 have HB1:=Lib.hid (up_trans HB.out hb)
 clear hb
 generalize hB:w.heap.size=B at *
 have HBB:=Lib.hid hB
 clear hB
 go_wp2
 go_loopw [6] (fun i wr=>FirstRel w1 n i wr) (fun i _=>28-(intOf i).toNat)
 case atStart=>exact ⟨0,by omega,by go_num,fun j hj=>absurd hj (Nat.not_lt_zero _),⟨w1,Below.refl _ _⟩,rfl⟩
 case round =>
  obtain ⟨k,hk,rfl,hall,u,rfl⟩:=hrel
  have HA:=Lib.hid hall
  clear hall
  by_cases hlt:k<28
  ·have h1:=HI.out k hlt
   have z1:(k:Int)<28:=by omega
   obtain ⟨W,hW⟩:∃ W,u.now=W:=⟨_,rfl⟩
   have HU:=Lib.hid u.up
   have HX2:=Lib.hid (HX1.out.later (by rw [HL.out];decide) u.up)
   rw [hW] at HU HX2
   rw [hW]
   have hc:=HX2.out.cell (cellJ k) (HV.out k hlt)
   obtain ⟨v,hvv⟩:∃ v,n k=v:=⟨_,rfl⟩
   have hok:okJ n k=(decide (lowJ k≤n k)&&decide (n k≤topJ k)):=rfl
   rw [hvv] at hc hok
   generalize cellJ k=j at *
   generalize lowJ k=lo at *
   generalize topJ k=hi at *
   have KI:=fun w=>in_any v lo hi w
   rw [←hok] at KI
   obtain ⟨b,hb⟩:∃ b,okJ n k=b:=⟨_,rfl⟩
   rw [hb] at KI
   have HOk:=Lib.hid hb
   have HK:=Lib.hid (fun w1=>(KI w1).mono fun e w' ⟨he,hw⟩=>(⟨he,hw ▸ Below.refl _ _⟩:e=Ending.returned (.bool b)∧Below w1.heap.size w1 w'))
   clear hok hb KI
   go_wp2
   have HC:=Bx.new W 83 [.pointer (some ⟨B,j,none⟩),.int .i64 lo,.int .i64 hi]
   have hcc:=Lib.hid (bl_cell (up_alloc (Below.refl _ W) (.cells #[.pointer (some ⟨B,j,none⟩),.int .i64 lo,.int .i64 hi] 83)) hc)
   have HUU:=Lib.hid (up_alloc HU.out (.cells #[.pointer (some ⟨B,j,none⟩),.int .i64 lo,.int .i64 hi] 83))
   generalize hw5:W.alloc (.cells #[.pointer (some ⟨B,j,none⟩),.int .i64 lo,.int .i64 hi] 83)=w5 at *
   clear hw5 hc hvv
   refine later_start (w:=w5) ?_
   intro u5
   have c0:=fun u:Later w5=>u.cell (HC.cell 0 rfl)
   have c1:=fun u:Later w5=>u.cell (HC.cell 1 rfl)
   have c2:=fun u:Later w5=>u.cell (HC.cell 2 rfl)
   have c3:=fun u:Later w5=>u.cell hcc.out
   cases b
   all_goals
    refine wp_region_later (by kernel_rfl) (by kernel_rfl) ?_
    repeat (go_big_quiet_step ((go_at_call 74;with_reducible exact Later.call (HK.out _))))
    refine wpQuiet_nil ?_
    rintro _ ⟨u2,rfl⟩
    clear c0 c1 c2 c3
    have HU2:=Lib.hid (up_trans HUU.out u2.up)
    generalize u2.now=w6 at *
    go_wp2
   ·go_ret
    exact ⟨by rw [HF.out k hlt HA.out HOk.out];rfl,up_trans (by rw [HBB.out];exact HB1.out) HU2.out⟩
   ·go_roundw
    case rel=>exact ⟨k+1,by omega,by go_num,okJ_snoc HA.out HOk.out,⟨w6,HU2.out⟩,rfl⟩
    case measure=>simp [intOf];omega
  ·have hk2:k=28:=by omega
   subst hk2
   go_wp2
   go_ret
   exact ⟨by rw [HZ.out HA.out];rfl,up_trans (by rw [HBB.out];exact HB1.out) u.up⟩
end Go.Proofs.Ytabinmabggnhbaa
