/- Part 15 of the texts that the proofs of this seat share: SplitOf, FirstAll, NumMath, CreepMath, NumRef, NumBits, RefFirst, RefCreep, UsualKept, CreepSpec, OrderPlaces, OrderCode. -/
import Derived.Test.YtbbjileignefbaaGreatDoorPart14
import Derived.Test.YtbbjileignefbaaGreatDoorPart10
import Derived.Test.YtbbjileignefbaaGreatDoorPart3
import Derived.Laws.BitsAllLaws
import Derived.Test.YtbbjileignefbaaGreatDoorProg
import Derived.WalkKit
import Derived.WalkSpells
import Derived.WalkLawsBesides
import Derived.Lib.Hide
import Derived.Outline
import Derived.Lib.Mul64
import Derived.Deep.Light
import Derived.Test.YtbbjileignefbaaGreatDoorPart13
import Derived.Test.YtbbjileignefbaaGreatDoorPart1
import Derived.BigQuiet
set_option linter.unusedSimpArgs false
set_option linter.unusedVariables false
namespace Go.Proofs.YtbbjileignefbaaGreatDoor
open Go.RowKit
def sigS (j:Jb) (i:Int):Sc:=if (i==cntS j-1)=true then partE j else partF j
def atS (j:Jb) (i:Int):Option Sc:=if (decide (0≤i)&&decide (i≤cntS j-1))=true then some (sigS j i) else none
theorem part_small (j:Jb):(partF j).l.length≤6∧(partE j).l.length≤6:=by
 unfold partF partE
 by_cases h:partB j=true
 ·have:=part_facts h
  simp only [if_pos h]
  omega
 ·simp only [if_neg h]
  decide
theorem spAtP_any (j:Jb) (i:Int) (a1 a2:Option Addr) (c1 c2:Nat) (w:World) (hF:InL w a1 (partF j).l) (hE:InL w a2 (partE j).l):Calls Tryz.prog 84 #[.agg #[.int .i64 (cntS j),.int .i64 (partF j).c,.int .i64 (partF j).r,.slice a1 (partF j).l.length c1,.int .i64 (partE j).c,.int .i64 (partE j).r,.slice a2 (partE j).l.length c2],.int .i64 i] w
  fun e w'=>∃ a c,e=.returned (.agg #[.int .i64 (sigS j i).c,.int .i64 (sigS j i).r,.slice a (sigS j i).l.length c])∧InF w.heap.size w' a (sigS j i).l∧Below w.heap.size w w':=by
 have hc:=cnt_bounds j
 obtain ⟨h1,h2⟩:=part_small j
 unfold sigS
 cases hu:(i==cntS j-1)
 ·have:=spAt_core (cntS j) i (partF j).c (partF j).r (partE j).c (partE j).r (partF j).l _ (partE j).l.length _ a1 a2 c1 c2 false w hc.1 (by omega) hu rfl (by omega) rfl hF
  exact this
 ·have:=spAt_core (cntS j) i (partF j).c (partF j).r (partE j).c (partE j).r (partE j).l (partF j).l.length _ _ a1 a2 c1 c2 true w hc.1 (by omega) hu rfl (by omega) rfl hE
  exact this
set_option maxHeartbeats 1000000 in
theorem spAtJ_core (cs:List Value) (n m i:Int) (f g s:Sc) (u:Bool) (w:World) (n1:0≤n) (n2:n≤50000) (hm:n-1=m) (hL:cs.length=33)
  (KP:∀ w1,Below w.heap.size w w1→Calls Tryz.prog 27 #[.agg cs.toArray] w1 fun e w'=>∃ a1 c1 a2 c2,e=.returned (.agg #[.int .i64 n,.int .i64 f.c,.int .i64 f.r,.slice a1 f.l.length c1,.int .i64 g.c,.int .i64 g.r,.slice a2 g.l.length c2])
   ∧ InL w' a1 f.l∧InL w' a2 g.l∧Below w1.heap.size w1 w')
  (KI:∀ w1,Calls Tryz.prog 36 #[.int .i64 i,.int .i64 0,.int .i64 m] w1 fun e w'=>e=.returned (.bool u)∧w1=w')
  (KA:∀ a1 a2 c1 c2 w1,InL w1 a1 f.l→InL w1 a2 g.l→Calls Tryz.prog 84 #[.agg #[.int .i64 n,.int .i64 f.c,.int .i64 f.r,.slice a1 f.l.length c1,.int .i64 g.c,.int .i64 g.r,.slice a2 g.l.length c2],.int .i64 i] w1
   fun e w'=>∃ a c,e=.returned (.agg #[.int .i64 s.c,.int .i64 s.r,.slice a s.l.length c])∧InF w1.heap.size w' a s.l∧Below w1.heap.size w1 w') :
  Calls Tryz.prog 70 #[.agg cs.toArray,.int .i64 i] w (GivesS (if u=true then some s else none) w):=by
 have X1:=(Bx.new w 29 cs)
 have U1:=up_alloc (Below.refl w.heap.size w) (.cells cs.toArray 29)
 have V1:=up_alloc (Below.refl _ (w.alloc (.cells cs.toArray 29))) (.cells #[.int .i64 0,.int .i64 0,.slice none 0 0] 26)
 have HX:=Lib.hid (X1.later (by rw [hL];decide) V1)
 have HB:=Lib.hid (up_trans U1 V1)
 have R1:=Bx.new (w.alloc (.cells cs.toArray 29)) 26 [.int .i64 0,.int .i64 0,.slice none 0 0]
 rw [World.size_alloc] at R1
 have HR:=Lib.hid R1
 have HL:=Lib.hid hL;have HP:=Lib.hid KP;have HI:=Lib.hid KI;have HA:=Lib.hid KA
 clear X1 U1 V1 R1 hL KP KI KA
 cases u
 ·go_enter Tryz.func70,Tryz.ntmps70
  go_wp2_with (refine wpList_load_job rfl _ rfl w.heap.size rfl cs HX.out HL.out ?_;simp only [Act.put,List.setIfInBounds_toArray,List.set_cons_succ,List.set_cons_zero])
  refine (HP.out _ HB.out).mono ?_
  rintro e w1 ⟨a1,c1,a2,c2,rfl,hF,hE,hb⟩
  have S:=Bx.new w1 54 [.int .i64 n,.int .i64 f.c,.int .i64 f.r,.slice a1 f.l.length c1,.int .i64 g.c,.int .i64 g.r,.slice a2 g.l.length c2]
  have U:=up_alloc (Below.refl w1.heap.size w1) (.cells #[.int .i64 n,.int .i64 f.c,.int .i64 f.r,.slice a1 f.l.length c1,.int .i64 g.c,.int .i64 g.r,.slice a2 g.l.length c2] 54)
  have B1:=Lib.hid (up_trans (up_trans HB.out hb) U)
  have R2:=(HR.out.up hb).up U
  have r0:=R2.cell 0 rfl;have r1:=R2.cell 1 rfl;have r2:=R2.cell 2 rfl;have rf:=R2.free
  have R3:=R2.set3 (.int .i64 0) (.int .i64 0) (.slice none 0 0)
  have p0:=Lib.hid (R3.cell 0 rfl);have p1:=Lib.hid (R3.cell 1 rfl);have p2:=Lib.hid (R3.cell 2 rfl)
  have s0:=S.cell 0 rfl
  clear hb U S R2 R3 hF hE
  go_wp2_with fail
  refine (HI.out _).mono ?_
  rintro e w2 ⟨rfl,rfl⟩
  go_wp2
  have q0:=p0.out;have q1:=p1.out;have q2:=p2.out
  refine bodyPost_ret (v:=.tuple #[.agg #[.int .i64 0,.int .i64 0,.slice none 0 0],.bool false]) (by simp [results,Tryz.results70,go_sem,q0,q1,q2]) rfl (gives_none ?_)
  exact up_set (up_set (up_set B1.out (by simp only;omega) _) (by simp only;omega) _) (by simp only;omega) _
 ·go_enter Tryz.func70,Tryz.ntmps70
  go_wp2_with (refine wpList_load_job rfl _ rfl w.heap.size rfl cs HX.out HL.out ?_;simp only [Act.put,List.setIfInBounds_toArray,List.set_cons_succ,List.set_cons_zero])
  refine (HP.out _ HB.out).mono ?_
  rintro e w1 ⟨a1,c1,a2,c2,rfl,hF,hE,hb⟩
  have S:=Bx.new w1 54 [.int .i64 n,.int .i64 f.c,.int .i64 f.r,.slice a1 f.l.length c1,.int .i64 g.c,.int .i64 g.r,.slice a2 g.l.length c2]
  have U:=up_alloc (Below.refl w1.heap.size w1) (.cells #[.int .i64 n,.int .i64 f.c,.int .i64 f.r,.slice a1 f.l.length c1,.int .i64 g.c,.int .i64 g.r,.slice a2 g.l.length c2] 54)
  have B1:=Lib.hid (up_trans (up_trans HB.out hb) U)
  have R2:=Lib.hid ((HR.out.up hb).up U)
  have F2:=Lib.hid (hF.up U);have E2:=Lib.hid (hE.up U)
  have hlow:=(HR.out.up hb).lt
  have s0:=S.cell 0 rfl;have s1:=S.cell 1 rfl;have s2:=S.cell 2 rfl;have s3:=S.cell 3 rfl;have s4:=S.cell 4 rfl;have s5:=S.cell 5 rfl;have s6:=S.cell 6 rfl
  clear hb U S hF hE
  go_wp2_with fail
  refine (HI.out _).mono ?_
  rintro e w2 ⟨rfl,rfl⟩
  go_wp2_with fail
  refine (HA.out _ _ _ _ _ F2.out E2.out).mono ?_
  rintro e w3 ⟨a,c,rfl,hF,hb⟩
  have R3:=R2.out.up hb
  have B3:=Lib.hid (up_trans B1.out hb)
  have r0:=R3.cell 0 rfl;have r1:=R3.cell 1 rfl;have r2:=R3.cell 2 rfl;have rf:=R3.free
  have R4:=R3.set3 (.int .i64 s.c) (.int .i64 s.r) (.slice a s.l.length c)
  have p0:=Lib.hid (R4.cell 0 rfl);have p1:=Lib.hid (R4.cell 1 rfl);have p2:=Lib.hid (R4.cell 2 rfl)
  rw [World.size_alloc] at hF
  have HF:=Lib.hid hF
  clear hb R3 R4 hF s0 s1 s2 s3 s4 s5 s6
  go_wp2
  have q0:=p0.out;have q1:=p1.out;have q2:=p2.out
  refine bodyPost_ret (v:=.tuple #[.agg #[.int .i64 s.c,.int .i64 s.r,.slice a s.l.length c],.bool true]) (by simp [results,Tryz.results70,go_sem,q0,q1,q2]) rfl ⟨a,c,rfl,?_,?_⟩
  ·have F4:=HF.out
   refine InF.mono (base:=w1.heap.size+1) ?_ (by omega)
   exact ((F4.set (p:=⟨w.heap.size+1,0,none⟩) (by simp only;omega) _).set (p:=⟨w.heap.size+1,1,none⟩) (by simp only;omega) _).set (p:=⟨w.heap.size+1,2,none⟩) (by simp only;omega) _
  ·exact up_set (up_set (up_set B3.out (by simp only;omega) _) (by simp only;omega) _) (by simp only;omega) _
theorem spAt_any (cs:List Value) (j:Jb) (i:Int) (w:World) (h:JobA w cs j) (hf:WfF j) (hg:GoodM w) :
  Calls Tryz.prog 70 #[.agg cs.toArray,.int .i64 i] w (GivesS (atS j i) w):=by
 have hc:=cnt_bounds j
 exact spAtJ_core cs (cntS j) _ i (partF j) (partE j) (sigS j i) _ w hc.1 hc.2 rfl h.length (fun w1 hb=>spPart_any cs j w1 (h.up hb) hf (hg.below hb)) (fun w1=>in_any i 0 _ w1) (fun a1 a2 c1 c2 w1 h1 h2=>spAtP_any j i a1 a2 c1 c2 w1 h1 h2)
end Go.Proofs.YtbbjileignefbaaGreatDoor
namespace Go.Proofs.YtbbjileignefbaaGreatDoor
theorem first_all {n:Nat→Int} (h:firstJ n<0) (i:Nat) (hi:i<28):lowJ i≤n i∧n i≤topJ i:=by
 unfold firstJ at h
 split at h
 ·omega
 next hf =>
  have:=List.find?_eq_none.1 hf i (List.mem_range.2 hi)
  simpa [okJ] using this
end Go.Proofs.YtbbjileignefbaaGreatDoor
namespace Go.Proofs.YtbbjileignefbaaGreatDoor.NumMath
theorem wrapu (n:Int):IntKind.u64.wrap n=n%18446744073709551616:=by simp [IntKind.wrap,IntKind.bits,IntKind.signed]
theorem or_bit (x y:Int) (y0:0≤y) (y1:y≤1) :
  bits .or .u64 (IntKind.u64.wrap (x*2)) y=(x*2)%18446744073709551616+y:=by
 rw [wrapu,u64_or _ _ (by omega) (by omega) y0 (by omega),nat_join 1 _ _ (by omega) (by omega)]
 omega
theorem or_bare (x y:Int) (x0:0≤x) (x1:x<9223372036854775808) (y0:0≤y) (y1:y≤1):bits .or .u64 (x*2) y=x*2+y:=by
 have:=or_bit x y y0 y1
 rw [wrapu,show (x*2)%18446744073709551616=x*2 from by omega] at this
 exact this
theorem and_one (x:Int) (x0:0≤x) (x1:x<18446744073709551616):bits .and .u64 x 1=x%2:=by
 rw [u64_and _ _ x0 x1 (by omega) (by omega)]
 have:((1:Int).toNat)=1:=rfl
 rw [this,nat_mask1];omega
theorem and_low (x:Int) (x0:0≤x) (x1:x<18446744073709551616):bits .and .u64 x 4294967295=x%4294967296:=by
 rw [u64_and _ _ x0 x1 (by omega) (by omega)]
 have:((4294967295:Int).toNat)=2 ^ 32-1:=by decide
 rw [this,Nat.and_two_pow_sub_one_eq_mod];omega
theorem half_pow (b:Int) (k:Nat):b / 2 ^ (k+1)=b / 2 ^ k / 2:=by
 rw [Int.pow_succ,Int.ediv_ediv_of_nonneg (Int.le_of_lt (Int.pow_pos (by decide)))]
theorem ediv_pow_bd (b:Int) (k:Nat) (b0:0≤b):0≤b / 2 ^ k∧b / 2 ^ k≤b:=by
 have hp:(0:Int)<2 ^ k:=Int.pow_pos (by decide)
 exact ⟨Int.ediv_nonneg b0 (Int.le_of_lt hp),Int.ediv_le_self _ b0⟩
def Prod (a b:Int) (k:Nat) (hi lo:Int):Prop :=
 0≤hi∧hi<18446744073709551616∧0≤lo∧lo<18446744073709551616∧hi*18446744073709551616+lo=a*(b / 2 ^ k)
theorem prod_start (a b:Int) (b0:0≤b) (b1:b<18446744073709551616):Prod a b 64 0 0:=by
 refine ⟨by decide,by decide,by decide,by decide,?_⟩
 have:b / 2 ^ 64=0:=by
  have:(2:Int) ^ 64=18446744073709551616:=by decide
  rw [this];omega
 rw [this];simp
theorem prod_end (a b hi lo:Int) (h:Prod a b 0 hi lo):hi=a*b / 18446744073709551616∧lo=a*b%18446744073709551616:=by
 obtain ⟨_,_,_,_,h⟩:=h
 simp at h
 omega
theorem prod_lt (a q:Int) (a0:0≤a) (a1:a<18446744073709551616) (q0:0≤q) (q1:q<18446744073709551616) :
  0≤a*q∧a*q<18446744073709551616*18446744073709551616 :=
 ⟨Int.mul_nonneg a0 q0,Int.lt_of_le_of_lt (Int.mul_le_mul (Int.le_of_lt a1) (Int.le_refl _) q0 (by decide)) (by omega)⟩
section
variable (a b hi lo:Int) (k:Nat) (a0:0≤a) (a1:a<18446744073709551616) (b0:0≤b) (b1:b<18446744073709551616) (h:Prod a b (k+1) hi lo)
include a0 a1 b0 b1 h
theorem prod_pre:hi*2+lo / 9223372036854775808<18446744073709551616 ∧
  hi*18446744073709551616+lo=a*(b / 2 ^ k / 2)∧a*(b / 2 ^ k)=2*(a*(b / 2 ^ k / 2))+a*(b / 2 ^ k%2)∧a*(b / 2 ^ k)<18446744073709551616*18446744073709551616∧0≤a*(b / 2 ^ k%2):=by
 obtain ⟨h0,h1,l0,l1,e⟩:=h
 rw [half_pow] at e
 obtain ⟨q0,q1⟩:=ediv_pow_bd b k b0
 have hl:=prod_lt a (b / 2 ^ k) a0 a1 q0 (by omega)
 have e2:a*(b / 2 ^ k)=2*(a*(b / 2 ^ k / 2))+a*(b / 2 ^ k%2):=by
  have:b / 2 ^ k=2*(b / 2 ^ k / 2)+b / 2 ^ k%2:=by omega
  have e3:a*(2*(b / 2 ^ k / 2))=2*(a*(b / 2 ^ k / 2)):=by rw [←Int.mul_assoc,Int.mul_comm a 2,Int.mul_assoc]
  conv=>lhs;rw [this,Int.mul_add,e3]
 have n0:0≤a*(b / 2 ^ k%2):=Int.mul_nonneg a0 (by omega)
 generalize a*(b / 2 ^ k / 2)=p at *
 generalize a*(b / 2 ^ k%2)=r at *
 generalize a*(b / 2 ^ k)=p2 at *
 exact ⟨by omega,by omega,by omega,by omega,by omega⟩
theorem prod_zero (t:(bits .and .u64 (b / 2 ^ k) 1==1)=false) :
  Prod a b k (bits .or .u64 (IntKind.u64.wrap (hi*2)) (lo / 9223372036854775808)) (IntKind.u64.wrap (lo*2)):=by
 obtain ⟨p1,p2,p3,p4,p5⟩:=prod_pre a b hi lo k a0 a1 b0 b1 h
 obtain ⟨h0,h1,l0,l1,e⟩:=h
 obtain ⟨q0,q1⟩:=ediv_pow_bd b k b0
 rw [and_one _ q0 (by omega)] at t
 have tz:b / 2 ^ k%2=0:=by
  have:=beq_eq_false_iff_ne.1 t;omega
 rw [tz] at p3
 rw [or_bit _ _ (by omega) (by omega),wrapu]
 unfold Prod
 generalize a*(b / 2 ^ k / 2)=p at *
 generalize a*(b / 2 ^ k)=pp at *
 refine ⟨by omega,by omega,by omega,by omega,by omega⟩
theorem prod_one (t:(bits .and .u64 (b / 2 ^ k) 1==1)=true) :
  (IntKind.u64.wrap (IntKind.u64.wrap (lo*2)+a)<a→Prod a b k (IntKind.u64.wrap (bits .or .u64 (IntKind.u64.wrap (hi*2)) (lo / 9223372036854775808)+1)) (IntKind.u64.wrap (IntKind.u64.wrap (lo*2)+a))) ∧
  (a≤IntKind.u64.wrap (IntKind.u64.wrap (lo*2)+a)→Prod a b k (bits .or .u64 (IntKind.u64.wrap (hi*2)) (lo / 9223372036854775808)) (IntKind.u64.wrap (IntKind.u64.wrap (lo*2)+a))):=by
 obtain ⟨p1,p2,p3,p4,p5⟩:=prod_pre a b hi lo k a0 a1 b0 b1 h
 obtain ⟨h0,h1,l0,l1,e⟩:=h
 obtain ⟨q0,q1⟩:=ediv_pow_bd b k b0
 rw [and_one _ q0 (by omega)] at t
 have tz:b / 2 ^ k%2=1:=by
  have:=beq_iff_eq.1 t;omega
 rw [tz,Int.mul_one] at p3
 rw [or_bit _ _ (by omega) (by omega),wrapu,wrapu,wrapu]
 unfold Prod
 generalize a*(b / 2 ^ k / 2)=p at *
 generalize a*(b / 2 ^ k)=pp at *
 refine ⟨fun c=>⟨by omega,by omega,by omega,by omega,by omega⟩,fun c=>⟨by omega,by omega,by omega,by omega,by omega⟩⟩
end
def Quot (n c:Int) (i:Nat) (hi lo qh ql r:Int):Prop :=
 0≤hi∧hi<18446744073709551616∧0≤lo∧lo<18446744073709551616∧0≤qh∧qh<18446744073709551616∧0≤ql∧ql<18446744073709551616∧0≤r∧r<c ∧
 n*2 ^ i=((qh*18446744073709551616+ql)*c+r)*340282366920938463463374607431768211456+(hi*18446744073709551616+lo)
theorem quot_start (n c hi lo:Int) (c0:1≤c) (h0:0≤hi) (h1:hi<18446744073709551616) (l0:0≤lo) (l1:lo<18446744073709551616) (e:n=hi*18446744073709551616+lo):Quot n c 0 hi lo 0 0 0:=by
 refine ⟨h0,h1,l0,l1,by decide,by decide,by decide,by decide,by decide,by omega,?_⟩
 rw [e];simp
theorem quot_end (n c hi lo qh ql r:Int) (c0:1≤c) (h:Quot n c 128 hi lo qh ql r):qh*18446744073709551616+ql=n / c∧r=n%c:=by
 obtain ⟨h0,h1,l0,l1,_,_,_,_,r0,r1,e⟩:=h
 have p:(2:Int) ^ 128=340282366920938463463374607431768211456:=by decide
 rw [p] at e
 have e2:n=(qh*18446744073709551616+ql)*c+r:=by
  generalize (qh*18446744073709551616+ql)*c+r=x at *;omega
 generalize qh*18446744073709551616+ql=q at *
 rw [e2,Int.add_comm,Int.mul_comm]
 constructor
 ·rw [Int.add_mul_ediv_left _ _ (by omega),Int.ediv_eq_zero_of_lt r0 r1];simp
 ·rw [Int.add_mul_emod_self_left,Int.emod_eq_of_lt r0 r1]
theorem quot_bd (n c x q r:Int) (i:Nat) (hi1:i+1≤128) (n0:0≤n) (n1:n<340282366920938463463374607431768211456) (c0:1≤c) (r0:0≤r) (x0:0≤x) (q0:0≤q)
  (e:n*2 ^ (i+1)=(q*c+r)*340282366920938463463374607431768211456+x):q<340282366920938463463374607431768211456:=by
 have p:(2:Int) ^ (i+1)≤2 ^ 128:=by
  have:=Nat.pow_le_pow_right (n:=2) (by decide) hi1
  exact_mod_cast this
 have p2:(2:Int) ^ 128=340282366920938463463374607431768211456:=by decide
 rw [p2] at p
 have m:n*2 ^ (i+1)≤n*340282366920938463463374607431768211456:=Int.mul_le_mul_of_nonneg_left p n0
 have m2:q*1≤q*c:=Int.mul_le_mul_of_nonneg_left c0 q0
 generalize n*2 ^ (i+1)=y at *
 generalize q*c=z at *
 omega
section
variable (n c hi lo qh ql r:Int) (i:Nat) (hi1:i+1≤128) (n0:0≤n) (n1:n<340282366920938463463374607431768211456) (c0:1≤c) (c1:c≤9223372036854775808) (h:Quot n c i hi lo qh ql r)
include hi1 n0 n1 c0 c1 h
theorem quot_pre:n*2 ^ (i+1)=((2*(qh*18446744073709551616+ql))*c+(r*2+hi / 9223372036854775808))*340282366920938463463374607431768211456+(((hi*2)%18446744073709551616+lo / 9223372036854775808)*18446744073709551616+(lo*2)%18446744073709551616) ∧
  qh*2+ql / 9223372036854775808<18446744073709551616:=by
 obtain ⟨h0,h1,l0,l1,a0,a1,b0,b1,r0,r1,e⟩:=h
 have e2:n*2 ^ (i+1)=((2*(qh*18446744073709551616+ql))*c+(r*2+hi / 9223372036854775808))*340282366920938463463374607431768211456+(((hi*2)%18446744073709551616+lo / 9223372036854775808)*18446744073709551616+(lo*2)%18446744073709551616):=by
  rw [Int.pow_succ,←Int.mul_assoc,e,Int.mul_assoc 2]
  generalize (qh*18446744073709551616+ql)*c=z
  omega
 refine ⟨e2,?_⟩
 have:=quot_bd n c _ _ _ i hi1 n0 n1 c0 (by omega) (by omega) (by omega) e2
 omega
theorem quot_no (t:bits .or .u64 (r*2) (hi / 9223372036854775808)<c) :
  Quot n c (i+1) (bits .or .u64 (IntKind.u64.wrap (hi*2)) (lo / 9223372036854775808)) (IntKind.u64.wrap (lo*2)) (bits .or .u64 (IntKind.u64.wrap (qh*2)) (ql / 9223372036854775808)) (IntKind.u64.wrap (ql*2)) (bits .or .u64 (r*2) (hi / 9223372036854775808)):=by
 obtain ⟨e,b⟩:=quot_pre n c hi lo qh ql r i hi1 n0 n1 c0 c1 h
 obtain ⟨h0,h1,l0,l1,a0,a1,b0,b1,r0,r1,_⟩:=h
 rw [or_bare _ _ (by omega) (by omega) (by omega) (by omega)] at t
 rw [or_bit _ _ (by omega) (by omega),or_bit _ _ (by omega) (by omega),or_bare _ _ (by omega) (by omega) (by omega) (by omega),wrapu,wrapu]
 refine ⟨by omega,by omega,by omega,by omega,by omega,by omega,by omega,by omega,by omega,by omega,?_⟩
 have q2:((qh*2)%18446744073709551616+ql / 9223372036854775808)*18446744073709551616+(ql*2)%18446744073709551616=2*(qh*18446744073709551616+ql):=by omega
 rw [q2,e]
theorem quot_yes (t:c≤bits .or .u64 (r*2) (hi / 9223372036854775808)) :
  Quot n c (i+1) (bits .or .u64 (IntKind.u64.wrap (hi*2)) (lo / 9223372036854775808)) (IntKind.u64.wrap (lo*2)) (bits .or .u64 (IntKind.u64.wrap (qh*2)) (ql / 9223372036854775808)) (bits .or .u64 (IntKind.u64.wrap (ql*2)) 1) (IntKind.u64.wrap (bits .or .u64 (r*2) (hi / 9223372036854775808)-c)):=by
 obtain ⟨e,b⟩:=quot_pre n c hi lo qh ql r i hi1 n0 n1 c0 c1 h
 obtain ⟨h0,h1,l0,l1,a0,a1,b0,b1,r0,r1,_⟩:=h
 rw [or_bare _ _ (by omega) (by omega) (by omega) (by omega)] at t
 rw [or_bit _ _ (by omega) (by omega),or_bit _ _ (by omega) (by omega),or_bit _ _ (by omega) (by omega),or_bare _ _ (by omega) (by omega) (by omega) (by omega),wrapu,wrapu]
 refine ⟨by omega,by omega,by omega,by omega,by omega,by omega,by omega,by omega,by omega,by omega,?_⟩
 have q2:((qh*2)%18446744073709551616+ql / 9223372036854775808)*18446744073709551616+((ql*2)%18446744073709551616+1)=2*(qh*18446744073709551616+ql)+1:=by omega
 have r2:(r*2+hi / 9223372036854775808-c)%18446744073709551616=r*2+hi / 9223372036854775808-c:=by omega
 rw [q2,r2,e,Int.add_mul _ 1 c,Int.one_mul]
 generalize 2*(qh*18446744073709551616+ql)*c=z
 omega
end
def sz (n:Int):Int:=if n<0 then -n else n
theorem sz_bd (n:Int) (h0:-9223372036854775808≤n) (h1:n≤9223372036854775807):0≤sz n∧sz n≤9223372036854775808:=by unfold sz;split<;>omega
theorem sz_pos (n:Int) (h:n≠0):1≤sz n:=by unfold sz;split<;>omega
def fl (p c:Int):Int:=if 0<c then p / c else (-p) / (-c)
def fits (n:Int):Bool:=decide (-9223372036854775808≤n)&&decide (n≤9223372036854775807)
def opt (n:Int):Int×Bool:=if fits n=true then (n,true) else (0,false)
def md (a b c:Int):Int×Bool:=if c=0 then (0,false) else opt (fl (a*b) c)
def neg3 (a b c:Int):Bool:=(decide (a<0) != decide (b<0)) != decide (c<0)
theorem div_of (C N Q R:Int) (h:N=Q*C+R) (r0:0≤R) (r1:R<C):N / C=Q:=by
 rw [h,Int.add_comm,Int.add_mul_ediv_right _ _ (by omega),Int.ediv_eq_zero_of_lt r0 r1];simp
theorem div_neg_of (C N Q R:Int) (h:N=Q*C+R) (r0:0≤R) (r1:R<C):(-N) / C=if R=0 then -Q else -(Q+1):=by
 split
 ·refine div_of C (-N) (-Q) 0 ?_ (by omega) (by omega)
  rw [h,Int.neg_mul];omega
 ·refine div_of C (-N) (-(Q+1)) (C-R) ?_ (by omega) (by omega)
  rw [h,Int.neg_mul,Int.add_mul];omega
theorem mul_sign (a b:Int):a*b=if (decide (a<0) != decide (b<0))=true then -(sz a*sz b) else sz a*sz b:=by
 unfold sz
 by_cases ha:a<0<;>by_cases hb:b<0<;>simp [ha,hb,Int.neg_mul,Int.mul_neg]
theorem fl_eq (a b c Q R:Int) (hc:c≠0) (hN:sz a*sz b=Q*sz c+R) (r0:0≤R) (r1:R<sz c) :
  fl (a*b) c=if neg3 a b c=true then (if R=0 then -Q else -(Q+1)) else Q:=by
 have k1:=div_of (sz c) _ Q R hN r0 r1
 have k2:=div_neg_of (sz c) _ Q R hN r0 r1
 clear hN r0 r1
 rw [mul_sign]
 unfold neg3
 by_cases hd:c<0
 ·have e:sz c=-c:=by simp [sz,hd]
  have hp:¬ 0<c:=by omega
  rw [e] at k1 k2
  unfold fl
  cases hx:(decide (a<0) != decide (b<0))<;>simp [hd,hp,k1,k2]
 ·have e:sz c=c:=by simp [sz,hd]
  have hp:0<c:=by omega
  rw [e] at k1 k2
  unfold fl
  cases hx:(decide (a<0) != decide (b<0))<;>simp [hd,hp,k1,k2]
theorem opt_yes (n:Int) (h0:-9223372036854775808≤n) (h1:n≤9223372036854775807):opt n=(n,true):=by
 unfold opt fits;rw [if_pos (by simp;omega)]
theorem opt_no (n:Int) (h:n < -9223372036854775808∨9223372036854775807<n):opt n=(0,false):=by
 unfold opt fits;rw [if_neg (by simp;omega)]
def sg (m:Int) (below:Bool):Int×Bool:=opt (if below=true then -m else m)
section
variable (a b c Q R:Int) (hc:c≠0) (hN:sz a*sz b=Q*sz c+R) (r0:0≤R) (r1:R<sz c)
include hc hN r0 r1
theorem md_plus (t:neg3 a b c=false):md a b c=sg Q false:=by
 unfold md sg;rw [if_neg hc,fl_eq a b c Q R hc hN r0 r1,t];simp
theorem md_minus (t:neg3 a b c=true) (z:R=0):md a b c=sg Q true:=by
 unfold md sg;rw [if_neg hc,fl_eq a b c Q R hc hN r0 r1,t,z];simp
theorem md_less (t:neg3 a b c=true) (z:R≠0):md a b c=sg (Q+1) true:=by
 unfold md sg;rw [if_neg hc,fl_eq a b c Q R hc hN r0 r1,t,if_pos rfl,if_neg z];simp
end
theorem sg_plus (m:Int) (h0:0≤m) (h1:m≤9223372036854775807):sg m false=(m,true):=by unfold sg;simp;exact opt_yes _ (by omega) (by omega)
theorem sg_plus_no (m:Int) (h1:9223372036854775807<m):sg m false=(0,false):=by unfold sg;simp;exact opt_no _ (by omega)
theorem sg_minus (m:Int) (h0:0≤m) (h1:m≤9223372036854775808):sg m true=(-m,true):=by unfold sg;simp;exact opt_yes _ (by omega) (by omega)
theorem sg_minus_no (m:Int) (h1:9223372036854775808<m):sg m true=(0,false):=by unfold sg;simp;exact opt_no _ (by omega)
theorem md_all (a b c Q R:Int) (hc:c≠0) (hN:sz a*sz b=Q*sz c+R) (q0:0≤Q) (r0:0≤R) (r1:R<sz c) :
  (neg3 a b c=false→(Q≤9223372036854775807→md a b c=(Q,true))∧(9223372036854775807<Q→md a b c=(0,false))) ∧
  (neg3 a b c=true→(R≤0→Q≤9223372036854775808→md a b c=(-Q,true))∧(R≤0→9223372036854775808<Q→md a b c=(0,false)) ∧
   (0<R→Q+1≤9223372036854775808→md a b c=(-(Q+1),true))∧(0<R→9223372036854775808<Q+1→md a b c=(0,false))):=by
 refine ⟨fun t=>⟨fun h=>?_,fun h=>?_⟩,fun t=>⟨fun z h=>?_,fun z h=>?_,fun z h=>?_,fun z h=>?_⟩⟩
 ·rw [md_plus a b c Q R hc hN r0 r1 t,sg_plus _ q0 h]
 ·rw [md_plus a b c Q R hc hN r0 r1 t,sg_plus_no _ h]
 ·rw [md_minus a b c Q R hc hN r0 r1 t (by omega),sg_minus _ q0 h]
 ·rw [md_minus a b c Q R hc hN r0 r1 t (by omega),sg_minus_no _ h]
 ·rw [md_less a b c Q R hc hN r0 r1 t (by omega),sg_minus _ (by omega) h]
 ·rw [md_less a b c Q R hc hN r0 r1 t (by omega),sg_minus_no _ h]
end Go.Proofs.YtbbjileignefbaaGreatDoor.NumMath
namespace Go.Proofs.YtbbjileignefbaaGreatDoor
open NumMath (md fl opt fits)
def lvsJ (j:Jb):Nat:=(bookM j 0).length
theorem lvs_small (j:Jb):lvsJ j≤3200000:=bookM_small j 0
def outM (b leaf all:Int):Int:=if b=1 then (if leaf<all-1-leaf then leaf else all-1-leaf) else 0
def hasL (j:Jb) (x:Int):Bool:=decide (0≤x)&&decide (x<lvsJ j)
def outO (j:Jb) (x:Int):Int:=if hasL j x=true then outM (j.n 10) x (lvsJ j) else 0
def isCr (j:Jb) (x:Int):Bool:=decide (firstJ j.n<0)&&hasL j x
def crpM (j:Jb) (o:Int):Int:=o*j.n 17*j.n 18 / j.n 19
def crpO (j:Jb) (x:Int):Int:=if isCr j x=true then crpM j (outM (j.n 10) x (lvsJ j)) else 0
theorem outM_bounds {b x all:Int} (h0:0≤x) (h1:x<all):0≤outM b x all∧outM b x all≤x:=by
 unfold outM
 split
 ·split<;>omega
 ·omega
theorem has_iff {j:Jb} {x:Int}:hasL j x=true↔0≤x∧x<lvsJ j:=by simp [hasL]
theorem cr_facts {j:Jb} (h:firstJ j.n<0):(0≤j.n 17∧j.n 17≤100000)∧(0≤j.n 18∧j.n 18≤1000)∧(1≤j.n 19∧j.n 19≤1000) :=
 ⟨first_all h 17 (by decide),first_all h 18 (by decide),first_all h 19 (by decide)⟩
theorem crp_bounds {j:Jb} (h:firstJ j.n<0) {o:Int} (h0:0≤o) (h1:o≤3200000):(0≤o*j.n 17∧o*j.n 17≤320000000000)∧0≤crpM j o∧crpM j o≤320000000000000:=by
 obtain ⟨⟨a0,a1⟩,⟨b0,b1⟩,c0,c1⟩:=cr_facts h
 have e0:0≤o*j.n 17:=Int.mul_nonneg h0 a0
 have e1:o*j.n 17≤3200000*100000:=Int.mul_le_mul h1 a1 a0 (by omega)
 have e2:0≤o*j.n 17*j.n 18:=Int.mul_nonneg e0 b0
 have e3:o*j.n 17*j.n 18≤320000000000*1000:=Int.mul_le_mul e1 b1 b0 (by omega)
 refine ⟨⟨e0,by omega⟩,Int.ediv_nonneg e2 (by omega),?_⟩
 exact Int.le_trans (Int.ediv_le_self _ e2) (by omega)
theorem crp_md {j:Jb} (h:firstJ j.n<0) {o:Int} (h0:0≤o) (h1:o≤3200000):md (o*j.n 17) (j.n 18) (j.n 19)=(crpM j o,true):=by
 obtain ⟨-,-,c0,c1⟩:=cr_facts h
 obtain ⟨-,k0,k1⟩:=crp_bounds h h0 h1
 unfold md
 rw [if_neg (by omega)]
 have e:fl (o*j.n 17*j.n 18) (j.n 19)=crpM j o:=by unfold fl;rw [if_pos (by omega)];rfl
 rw [e]
 unfold opt fits
 simp
 omega
theorem crp_mono {j:Jb} (h:firstJ j.n<0) {o o':Int} (hle:o≤o'):crpM j o≤crpM j o':=by
 obtain ⟨⟨a0,a1⟩,⟨b0,b1⟩,c0,c1⟩:=cr_facts h
 exact Int.ediv_le_ediv (by omega) (Int.mul_le_mul_of_nonneg_right (Int.mul_le_mul_of_nonneg_right hle a0) b0)
def mostN (j:Jb):Nat→Int
 | 0=>0
 | k+1=>if mostN j k<crpO j (k:Int) then crpO j (k:Int) else mostN j k
def isMost (j:Jb):Bool:=decide (0<lvsJ j)&&decide (firstJ j.n<0)
theorem crpO_bounds (j:Jb) (x:Int):0≤crpO j x∧crpO j x≤320000000000000:=by
 unfold crpO
 split
 next h =>
  unfold isCr at h
  rw [Bool.and_eq_true,decide_eq_true_eq,has_iff] at h
  have hs:=lvs_small j
  have ho:=outM_bounds (b:=j.n 10) h.2.1 h.2.2
  exact (crp_bounds h.1 ho.1 (by omega)).2
 next=>omega
theorem mostN_le (j:Jb) {M:Int} (h0:0≤M):∀ k:Nat,(∀ i:Nat,i<k→crpO j i≤M)→mostN j k≤M
 | 0,_=>h0
 | k+1,h=>by
  have:=mostN_le j h0 k (fun i hi=>h i (by omega))
  have:=h k (by omega)
  unfold mostN
  split<;>omega
theorem mostN_ge (j:Jb):∀ (k i:Nat),i<k→crpO j i≤mostN j k
 | 0,i,h=>absurd h (Nat.not_lt_zero _)
 | k+1,i,h=>by
  unfold mostN
  by_cases e:i=k
  ·subst e
   split<;>omega
  ·have:=mostN_ge j k i (by omega)
   split<;>omega
theorem most_middle (j:Jb) (h:isMost j=true):mostN j (lvsJ j)=crpO j (((lvsJ j-1) / 2:Nat):Int):=by
 unfold isMost at h
 rw [Bool.and_eq_true,decide_eq_true_eq,decide_eq_true_eq] at h
 obtain ⟨hl,hf⟩:=h
 refine Int.le_antisymm (mostN_le j (crpO_bounds j _).1 _ fun i hi=>?_) (mostN_ge j _ _ (by omega))
 have h1:isCr j (i:Int)=true:=by unfold isCr;rw [Bool.and_eq_true,decide_eq_true_eq,has_iff];omega
 have h2:isCr j (((lvsJ j-1) / 2:Nat):Int)=true:=by unfold isCr;rw [Bool.and_eq_true,decide_eq_true_eq,has_iff];omega
 unfold crpO
 rw [if_pos h1,if_pos h2]
 refine crp_mono hf ?_
 unfold outM
 by_cases hb:j.n 10=1
 ·rw [if_pos hb,if_pos hb]
  split<;>split<;>omega
 ·rw [if_neg hb,if_neg hb]
  exact Int.le_refl _
theorem most_none (j:Jb) (h:isMost j=false):mostN j (lvsJ j)=0:=by
 have key:∀ k:Nat,k≤lvsJ j→mostN j k=0:=fun k=>by
  induction k with
  | zero=>intro _;rfl
  | succ k ih =>
   intro hk
   have e:crpO j (k:Int)=0:=by
    unfold crpO
    rw [if_neg]
    intro hc
    unfold isCr at hc
    rw [Bool.and_eq_true,decide_eq_true_eq] at hc
    unfold isMost at h
    rw [Bool.and_eq_false_iff,decide_eq_false_iff_not,decide_eq_false_iff_not] at h
    omega
   unfold mostN
   rw [ih (by omega),e]
   rfl
 exact key _ (Nat.le_refl _)
theorem crp_pair {j:Jb} {x:Int} (h:isCr j x=true):isCr j ((lvsJ j:Int)-1-x)=true∧(j.n 10=1→crpO j ((lvsJ j:Int)-1-x)=crpO j x)∧(j.n 10≠1→crpO j x=0):=by
 have h':=h
 unfold isCr at h'
 rw [Bool.and_eq_true,decide_eq_true_eq,has_iff] at h'
 have h2:isCr j ((lvsJ j:Int)-1-x)=true:=by unfold isCr;rw [Bool.and_eq_true,decide_eq_true_eq,has_iff];omega
 refine ⟨h2,fun hb=>?_,fun hb=>?_⟩
 ·unfold crpO
  rw [if_pos h,if_pos h2]
  unfold outM
  rw [if_pos hb,if_pos hb]
  congr 1
  split<;>split<;>omega
 ·unfold crpO outM
  rw [if_pos h,if_neg hb]
  unfold crpM
  simp
theorem crp_next {j:Jb} {x:Int} (hb:j.n 10=1) (h:isCr j x=true) (h1:isCr j (x+1)=true) (hx:2*(x+1)<lvsJ j):crpO j x≤crpO j (x+1):=by
 unfold crpO
 rw [if_pos h,if_pos h1]
 unfold isCr at h
 rw [Bool.and_eq_true,decide_eq_true_eq,has_iff] at h
 refine crp_mono h.1 ?_
 unfold outM
 rw [if_pos hb,if_pos hb]
 split<;>split<;>omega
end Go.Proofs.YtbbjileignefbaaGreatDoor
namespace Go.Proofs.YtbbjileignefbaaGreatDoor
open Go.RowKit NumMath
theorem ret_int {k:IntKind} {a b:Int} (h:a=b):Ending.returned (.int k a)=.returned (.int k b):=by rw [h]
theorem ret_ii {k l:IntKind} {a b c d:Int} (h:a=b) (g:c=d):Ending.returned (.tuple #[.int k a,.int l c])=.returned (.tuple #[.int k b,.int l d]):=by rw [h,g]
theorem ret_ib {k:IntKind} {a b:Int} {c d:Bool} (h:a=b) (g:c=d):Ending.returned (.tuple #[.int k a,.bool c])=.returned (.tuple #[.int k b,.bool d]):=by rw [h,g]
theorem ret_iii {k l m:IntKind} {a b c d x y:Int} (h:a=b) (g:c=d) (f:x=y):Ending.returned (.tuple #[.int k a,.int l c,.int m x])=.returned (.tuple #[.int k b,.int l d,.int m y]):=by rw [h,g,f]
theorem refsize_any (n:Int) (w:World) (h0:-9223372036854775808≤n) (h1:n≤9223372036854775807) :
  Calls Tryz.prog 42 #[.int .i64 n] w fun e w'=>e=.returned (.int .u64 (sz n))∧w=w':=by
 by_cases h:n<0
 ·have e:sz n=-n:=by simp [sz,h]
  have H:=Lib.hid e;clear e
  go_enter Tryz.func42,Tryz.ntmps42
  go_wp2
  go_ret
  exact ⟨ret_int (by rw [H.out];simp only [wrapu];omega),rfl⟩
 ·have e:sz n=n:=by simp [sz,h]
  have H:=Lib.hid e;clear e
  go_enter Tryz.func42,Tryz.ntmps42
  go_wp2
  go_ret
  exact ⟨ret_int H.out.symm,rfl⟩
def ProdRel (a b:Int) (h l i:Value):Prop:=∃ k:Nat,∃ hi lo:Int,k≤64∧i=.int .i64 ((k:Int)-1)∧h=.int .u64 hi∧l=.int .u64 lo∧Prod a b k hi lo
set_option maxHeartbeats 400000 in
theorem product_any (a b:Int) (w:World) (a0:0≤a) (a1:a<18446744073709551616) (b0:0≤b) (b1:b<18446744073709551616) :
  Calls Tryz.prog 41 #[.int .u64 a,.int .u64 b] w fun e w'=>e=.returned (.tuple #[.int .u64 (a*b / 18446744073709551616),.int .u64 (a*b%18446744073709551616)])∧w=w':=by
 have st:=prod_start a b b0 b1
 go_enter Tryz.func41,Tryz.ntmps41
 go_wp2
 go_loop [6,7,8] (fun h l i=>ProdRel a b h l i) (fun _ _ i=>(intOf i+1).toNat)
 case atStart=>exact ⟨64,0,0,by omega,by go_num,rfl,rfl,st⟩
 case round =>
  obtain ⟨k,hi,lo,hk,rfl,rfl,rfl,hp⟩:=hrel
  have h0:=hp.1;have h1:=hp.2.1;have l0:=hp.2.2.1;have l1:=hp.2.2.2.1
  by_cases hlt:1≤k
  ·obtain ⟨k,rfl⟩:∃ j,k=j+1:=⟨k-1,by omega⟩
   go_wp2
   ·go_round
    case rel=>exact ⟨k,_,_,by omega,by go_num,rfl,rfl,(prod_one a b hi lo k a0 a1 b0 b1 hp ‹_›).1 ‹_›⟩
    case measure=>simp [intOf]
   ·go_round
    case rel=>exact ⟨k,_,_,by omega,by go_num,rfl,rfl,(prod_one a b hi lo k a0 a1 b0 b1 hp ‹_›).2 ‹_›⟩
    case measure=>simp [intOf]
   ·go_round
    case rel=>exact ⟨k,_,_,by omega,by go_num,rfl,rfl,prod_zero a b hi lo k a0 a1 b0 b1 hp ‹_›⟩
    case measure=>simp [intOf]
  ·obtain rfl:k=0:=by omega
   obtain ⟨e1,e2⟩:=prod_end a b hi lo hp
   have E1:=Lib.hid e1;have E2:=Lib.hid e2;clear e1 e2
   go_wp2
   go_ret2
   exact ⟨ret_ii E1.out E2.out,rfl⟩
def QuotRel (n c:Int) (h l qh ql r i:Value):Prop:=∃ k:Nat,∃ hi lo a b s:Int,k≤128∧i=.int .i64 (k:Int)∧h=.int .u64 hi∧l=.int .u64 lo∧qh=.int .u64 a∧ql=.int .u64 b∧r=.int .u64 s∧Quot n c k hi lo a b s
set_option maxRecDepth 100000 in
set_option maxHeartbeats 400000 in
theorem divide_any (hi lo c:Int) (w:World) (h0:0≤hi) (h1:hi<18446744073709551616) (l0:0≤lo) (l1:lo<18446744073709551616) (c0:1≤c) (c1:c≤9223372036854775808) :
  Calls Tryz.prog 43 #[.int .u64 hi,.int .u64 lo,.int .u64 c] w fun e w'=>e=.returned (.tuple #[.int .u64 ((hi*18446744073709551616+lo) / c / 18446744073709551616),.int .u64 ((hi*18446744073709551616+lo) / c%18446744073709551616),.int .u64 ((hi*18446744073709551616+lo)%c)])∧w=w':=by
 have st:=quot_start (hi*18446744073709551616+lo) c hi lo c0 h0 h1 l0 l1 rfl
 have n0:0≤hi*18446744073709551616+lo:=by omega
 have n1:hi*18446744073709551616+lo<340282366920938463463374607431768211456:=by omega
 generalize hi*18446744073709551616+lo=n at *
 have N1:=Lib.hid n1;clear n1
 go_enter Tryz.func43,Tryz.ntmps43
 go_wp2
 go_loop [0,1,9,10,11,12] (fun h l qh ql r i=>QuotRel n c h l qh ql r i) (fun _ _ _ _ _ i=>128-(intOf i).toNat)
 case atStart=>exact ⟨0,_,_,0,0,0,by omega,by go_num,rfl,rfl,rfl,rfl,rfl,st⟩
 case round =>
  clear st
  obtain ⟨k,xi,yo,a,b,s,hk,rfl,rfl,rfl,rfl,rfl,rfl,hq⟩:=hrel
  obtain ⟨x0,x1,y0,y1,p0,p1,q0,q1,s0,s1⟩:0≤xi∧xi<18446744073709551616∧0≤yo∧yo<18446744073709551616∧0≤a∧a<18446744073709551616∧0≤b∧b<18446744073709551616∧0≤s∧s<c:=by obtain ⟨x0,x1,y0,y1,p0,p1,q0,q1,s0,s1,_⟩:=hq;exact ⟨x0,x1,y0,y1,p0,p1,q0,q1,s0,s1⟩
  by_cases hlt:k<128
  ·go_wp2
   ·go_round
    case rel=>exact ⟨k+1,_,_,_,_,_,by omega,by go_num,rfl,rfl,rfl,rfl,rfl,quot_yes n c xi yo a b s k (by omega) n0 N1.out c0 c1 hq ‹_›⟩
    case measure=>simp [intOf];omega
   ·go_round
    case rel=>exact ⟨k+1,_,_,_,_,_,by omega,by go_num,rfl,rfl,rfl,rfl,rfl,quot_no n c xi yo a b s k (by omega) n0 N1.out c0 c1 hq ‹_›⟩
    case measure=>simp [intOf];omega
  ·obtain rfl:k=128:=by omega
   obtain ⟨e1,e2⟩:=quot_end n c xi yo a b s c0 hq
   have e3:n / c / 18446744073709551616=a:=by omega
   have e4:n / c%18446744073709551616=b:=by omega
   have E2:=Lib.hid e2;have E3:=Lib.hid e3;have E4:=Lib.hid e4;clear e1 e2 e3 e4
   go_wp2
   go_ret3
   exact ⟨ret_iii E3.out.symm E4.out.symm E2.out,rfl⟩
theorem ret_pair {n:Int} {t:Bool} {p:Int×Bool} (h:p=(n,t)):Ending.returned (.tuple #[.int .i64 n,.bool t])=.returned (.tuple #[.int .i64 p.1,.bool p.2]):=by rw [h]
theorem pair_eq {p:Int×Bool} {n m:Int} {t:Bool} (h:p=(n,t)) (e:n=m):p=(m,t):=by rw [h,e]
theorem refMulDiv_zero (a b:Int) (w:World) :
  Calls Tryz.prog 26 #[.int .i64 a,.int .i64 b,.int .i64 0] w fun e w'=>e=.returned (.tuple #[.int .i64 (md a b 0).1,.bool (md a b 0).2])∧w=w':=by
 have e:md a b 0=(0,false):=rfl
 have H:=Lib.hid e;clear e
 go_enter Tryz.func26,Tryz.ntmps26
 go_wp2
 go_ret2
 exact ⟨ret_ib (by rw [H.out]) (by rw [H.out]),rfl⟩
theorem product_as (a b hi lo:Int) (w:World) (a0:0≤a) (a1:a<18446744073709551616) (b0:0≤b) (b1:b<18446744073709551616) (h1:hi=a*b / 18446744073709551616) (h2:lo=a*b%18446744073709551616) :
  Calls Tryz.prog 41 #[.int .u64 a,.int .u64 b] w fun e w'=>e=.returned (.tuple #[.int .u64 hi,.int .u64 lo])∧w=w':=by
 subst h1 h2;exact product_any a b w a0 a1 b0 b1
theorem divide_as (hi lo c qh ql r:Int) (w:World) (h0:0≤hi) (h1:hi<18446744073709551616) (l0:0≤lo) (l1:lo<18446744073709551616) (c0:1≤c) (c1:c≤9223372036854775808)
  (e1:qh=(hi*18446744073709551616+lo) / c / 18446744073709551616) (e2:ql=(hi*18446744073709551616+lo) / c%18446744073709551616) (e3:r=(hi*18446744073709551616+lo)%c) :
  Calls Tryz.prog 43 #[.int .u64 hi,.int .u64 lo,.int .u64 c] w fun e w'=>e=.returned (.tuple #[.int .u64 qh,.int .u64 ql,.int .u64 r])∧w=w':=by
 subst e1 e2 e3;exact divide_any hi lo c w h0 h1 l0 l1 c0 c1
theorem words (a b c:Int) (a0:-9223372036854775808≤a) (a1:a≤9223372036854775807) (b0:-9223372036854775808≤b) (b1:b≤9223372036854775807) (c0:-9223372036854775808≤c) (c1:c≤9223372036854775807) (hc:c≠0) :
  ∃ hi lo qh ql r:Int,hi=sz a*sz b / 18446744073709551616∧lo=sz a*sz b%18446744073709551616∧qh=(hi*18446744073709551616+lo) / sz c / 18446744073709551616∧ql=(hi*18446744073709551616+lo) / sz c%18446744073709551616∧r=(hi*18446744073709551616+lo)%sz c ∧
   (0≤hi∧hi<18446744073709551616∧0≤lo∧lo<18446744073709551616∧0≤qh∧qh<18446744073709551615∧0≤ql∧ql<18446744073709551616∧0≤r∧r<sz c) ∧
   sz a*sz b=(qh*18446744073709551616+ql)*sz c+r:=by
 refine ⟨_,_,_,_,_,rfl,rfl,rfl,rfl,rfl,?_⟩
 obtain ⟨x0,x1⟩:=sz_bd a a0 a1
 obtain ⟨y0,y1⟩:=sz_bd b b0 b1
 have z0:=sz_pos c hc
 have p0:0≤sz a*sz b:=Int.mul_nonneg x0 y0
 have p1:sz a*sz b≤9223372036854775808*9223372036854775808:=Int.mul_le_mul x1 y1 y0 (by decide)
 have e:sz a*sz b / 18446744073709551616*18446744073709551616+sz a*sz b%18446744073709551616=sz a*sz b:=by omega
 rw [e]
 generalize sz a*sz b=N at *
 generalize sz c=C at *
 have d0:0≤N / C:=Int.ediv_nonneg p0 (by omega)
 have d1:N / C≤N:=Int.ediv_le_self _ p0
 have m0:=Int.emod_nonneg N (by omega:C≠0)
 have m1:=Int.emod_lt_of_pos N (by omega:0<C)
 have dm:=Int.mul_ediv_add_emod N C
 have e2:(N / C / 18446744073709551616*18446744073709551616+N / C%18446744073709551616)=N / C:=by omega
 refine ⟨⟨by omega,by omega,by omega,by omega,by omega,by omega,by omega,by omega,m0,m1⟩,?_⟩
 rw [e2,Int.mul_comm];omega
set_option maxHeartbeats 800000 in
theorem refMulDiv_go (a b c:Int) (w:World) (a0:-9223372036854775808≤a) (a1:a≤9223372036854775807) (b0:-9223372036854775808≤b) (b1:b≤9223372036854775807) (c0:-9223372036854775808≤c) (c1:c≤9223372036854775807) (hc:(c==0)=false) :
  Calls Tryz.prog 26 #[.int .i64 a,.int .i64 b,.int .i64 c] w fun e w'=>e=.returned (.tuple #[.int .i64 (md a b c).1,.bool (md a b c).2])∧w=w':=by
 have hc':c≠0:=by simpa using hc
 obtain ⟨hi,lo,qh,ql,r,e1,e2,e3,e4,e5,⟨h0,h1,l0,l1,q0,q1,k0,k1,r0,r1⟩,eN⟩:=words a b c a0 a1 b0 b1 c0 c1 hc'
 obtain ⟨x0,x1⟩:=sz_bd a a0 a1
 obtain ⟨y0,y1⟩:=sz_bd b b0 b1
 obtain ⟨z0,z1⟩:=sz_bd c c0 c1
 have z2:=sz_pos c hc'
 have E1:=Lib.hid e1;have E2:=Lib.hid e2;have E3:=Lib.hid e3;have E4:=Lib.hid e4;have E5:=Lib.hid e5;have EN:=Lib.hid eN;have HC:=Lib.hid hc'
 clear e1 e2 e3 e4 e5 eN hc'
 have F:=Lib.hid (md_all a b c _ _ HC.out EN.out (by omega) r0 r1)
 obtain ⟨x,hx⟩:∃ x,decide (a<0)=x:=⟨_,rfl⟩
 obtain ⟨y,hy⟩:∃ x,decide (b<0)=x:=⟨_,rfl⟩
 obtain ⟨z,hz⟩:∃ x,decide (c<0)=x:=⟨_,rfl⟩
 obtain ⟨u,hu⟩:∃ u,(x==y)=u:=⟨_,rfl⟩
 cases u<;>cases z
 all_goals
  have G:=Lib.hid (show neg3 a b c=_ by simp only [neg3,bne,hx,hy,hz,hu];rfl)
  go_enter Tryz.func26,Tryz.ntmps26
  go_wp2_with (first | (go_at_call 42;refine (refsize_any _ _ (by omega) (by omega)).mono ?_;rintro e w' ⟨rfl,rfl⟩) | (go_at_call 41;refine (product_as _ _ hi lo _ (by omega) (by omega) (by omega) (by omega) E1.out E2.out).mono ?_;rintro e w' ⟨rfl,rfl⟩) | (go_at_call 43;refine (divide_as _ _ _ qh ql r _ (by omega) (by omega) (by omega) (by omega) (by omega) (by omega) E3.out E4.out E5.out).mono ?_;rintro e w' ⟨rfl,rfl⟩))
  all_goals
   go_ret2
   refine ⟨ret_pair ?_,rfl⟩
   have f:=F.out
   have g:=G.out
   clear EN E1 E2 E3 E4 E5 F G HC
   go_light
   simp only [wrapu,wrap64,beq_iff_eq,beq_eq_false_iff_ne,ne_eq] at *
   first
    | exact pair_eq ((f.1 g).1 (by omega)) (by omega)
    | exact pair_eq ((f.1 g).2 (by omega)) (by omega)
    | exact pair_eq ((f.2 g).1 (by omega) (by omega)) (by omega)
    | exact pair_eq ((f.2 g).2.1 (by omega) (by omega)) (by omega)
    | exact pair_eq ((f.2 g).2.2.1 (by omega) (by omega)) (by omega)
    | exact pair_eq ((f.2 g).2.2.2 (by omega) (by omega)) (by omega)
theorem refMulDiv_any (a b c:Int) (w:World) (a0:-9223372036854775808≤a) (a1:a≤9223372036854775807) (b0:-9223372036854775808≤b) (b1:b≤9223372036854775807) (c0:-9223372036854775808≤c) (c1:c≤9223372036854775807) :
  Calls Tryz.prog 26 #[.int .i64 a,.int .i64 b,.int .i64 c] w fun e w'=>e=.returned (.tuple #[.int .i64 (md a b c).1,.bool (md a b c).2])∧w=w':=by
 by_cases h:c=0
 ·subst h;exact refMulDiv_zero a b w
 ·exact refMulDiv_go a b c w a0 a1 b0 b1 c0 c1 (by simpa using h)
end Go.Proofs.YtbbjileignefbaaGreatDoor
namespace Go.Proofs.YtbbjileignefbaaGreatDoor
open Go.RowKit
theorem enc_nums (n:Nat→Int) {k:Nat} (hk:k<28):(enc (numsL n))[k]?=some (.int .i64 (n k)):=by
 unfold enc
 rw [List.getElem?_map,numsL_at n hk];rfl
theorem enc_from {k:Nat} (hk:k<28):(enc fromL)[k]?=some (.int .i64 (lowJ k)):=by
 unfold enc
 rw [List.getElem?_map,low_at hk];rfl
theorem enc_to {k:Nat} (hk:k<28):(enc toL)[k]?=some (.int .i64 (topJ k)):=by
 unfold enc
 rw [List.getElem?_map,top_at hk];rfl
def RefFirstRel (w:World) (n:Nat→Int) (i:Value) (wr:World):Prop:=∃ k:Nat,k≤28∧i=.int .i64 (k:Int)∧Hid (∀ j,j<k→okJ n j=true)∧∃ u:Later w,wr=u.now
set_option maxHeartbeats 1000000 in
theorem refFirst_any (cs:List Value) (n:Nat→Int) (w:World) (hl:cs.length=33) (hv:∀ k,k<28→cs[cellJ k]?=some (.int .i64 (n k))) :
  Calls Tryz.prog 8 #[.agg cs.toArray] w fun e w'=>e=.returned (.int .i64 (firstJ n))∧Below w.heap.size w w':=by
 have HB:=Lib.hid (up_alloc (Below.refl w.heap.size w) (.cells cs.toArray 29))
 have HX:=Lib.hid (Bx.new w 29 cs)
 have HL:=Lib.hid hl
 have HA:=Lib.hid (fun w1=>refAll_any cs n w1 hv)
 have HF:=Lib.hid (fun (k:Nat) (hk:k<28) (h:∀ j,j<k→okJ n j=true) (h0:okJ n k=false)=>firstJ_at hk h h0)
 have HZ:=Lib.hid (fun h=>firstJ_none (n:=n) h)
 generalize firstJ n=F at *
 clear hv hl
 go_enter Tryz.func8,Tryz.ntmps8
 go_wp2_with (refine wpList_load_job rfl _ rfl w.heap.size rfl cs HX.out HL.out ?_;simp only [Act.put,List.setIfInBounds_toArray,List.set_cons_succ,List.set_cons_zero])
 refine (HA.out _).mono ?_
 rintro e w1 ⟨g1,rfl,-,L1,hb⟩
 have HB1:=Lib.hid (up_trans HB.out hb)
 clear hb
 go_wp2_with fail
 refine (refFrom_any _).mono ?_
 rintro e w2 ⟨g2,rfl,-,L2,hb⟩
 have HB2:=Lib.hid (up_trans HB1.out hb)
 have M1:=Bx.up L1 hb
 clear hb L1
 go_wp2_with fail
 refine (refTo_any _).mono ?_
 rintro e w3 ⟨g3,rfl,-,L3,hb⟩
 have HB3:=Lib.hid (up_trans HB2.out hb)
 have N1:=Lib.hid (Bx.up M1 hb)
 have N2:=Lib.hid (Bx.up L2 hb)
 have N3:=Lib.hid L3
 clear hb M1 L2 L3
 go_wp2
 go_loopw [6] (fun i wr=>RefFirstRel w3 n i wr) (fun i _=>28-(intOf i).toNat)
 case atStart=>exact ⟨0,by omega,by go_num,Lib.hid (fun j hj=>absurd hj (Nat.not_lt_zero _)),⟨w3,Below.refl _ _⟩,rfl⟩
 case round =>
  obtain ⟨k,hk,rfl,HA,u,rfl⟩:=hrel
  by_cases hlt:k<28
  ·have c1:=fun u:Later w3=>u.cell (N1.out.cell k (enc_nums n hlt))
   have c2:=fun u:Later w3=>u.cell (N2.out.cell k (enc_from hlt))
   have c3:=fun u:Later w3=>u.cell (N3.out.cell k (enc_to hlt))
   have z0:(0:Int)≤(k:Int):=by omega
   have z1:(k:Int)<28:=by omega
   have HOk:okJ n k=(decide (lowJ k≤n k)&&decide (n k≤topJ k)):=rfl
   obtain ⟨v,hvv⟩:∃ v,n k=v:=⟨_,rfl⟩
   obtain ⟨lo,hlo⟩:∃ v,lowJ k=v:=⟨_,rfl⟩
   obtain ⟨hi,hhi⟩:∃ v,topJ k=v:=⟨_,rfl⟩
   rw [hvv,hlo,hhi] at HOk
   rw [hvv] at c1
   rw [hlo] at c2
   rw [hhi] at c3
   have HO:=Lib.hid HOk
   clear HOk hvv hlo hhi
   go_wp2_with fail
   by_cases h1:v<lo
   ·have q1:decide (v<lo)=true:=decide_eq_true h1
    refine wp_region_later (by kernel_rfl) (by kernel_rfl) ?_
    repeat (go_big_quiet_step (fail))
    refine wpQuiet_nil ?_
    rintro _ ⟨u2,rfl⟩
    clear c1 c2 c3
    go_wp2
    go_ret
    exact ⟨by rw [HF.out k hlt HA.out (by rw [HO.out,decide_eq_false (by omega)];rfl)];rfl,up_trans HB3.out u2.up⟩
   ·have q1:decide (v<lo)=false:=decide_eq_false h1
    by_cases h2:hi<v
    ·have q2:decide (hi<v)=true:=decide_eq_true h2
     refine wp_region_later (by kernel_rfl) (by kernel_rfl) ?_
     repeat (go_big_quiet_step (fail))
     refine wpQuiet_nil ?_
     rintro _ ⟨u2,rfl⟩
     clear c1 c2 c3
     go_wp2
     go_ret
     exact ⟨by rw [HF.out k hlt HA.out (by rw [HO.out,decide_eq_false (show ¬ v≤hi by omega),Bool.and_false])];rfl,up_trans HB3.out u2.up⟩
    ·have q2:decide (hi<v)=false:=decide_eq_false h2
     refine wp_region_later (by kernel_rfl) (by kernel_rfl) ?_
     repeat (go_big_quiet_step (fail))
     refine wpQuiet_nil ?_
     rintro _ ⟨u2,rfl⟩
     clear c1 c2 c3
     have HA2:=Lib.hid (okJ_snoc HA.out (by rw [HO.out,decide_eq_true (show lo≤v by omega),decide_eq_true (show v≤hi by omega)];rfl))
     go_wp2
     go_roundw
     case rel=>exact ⟨k+1,by omega,by go_num,HA2,u2,rfl⟩
     case measure=>simp [intOf];omega
  ·have hk2:k=28:=by omega
   subst hk2
   go_wp2
   go_ret
   exact ⟨by rw [HZ.out HA.out];rfl,up_trans HB3.out u.up⟩
end Go.Proofs.YtbbjileignefbaaGreatDoor
namespace Go.Proofs.YtbbjileignefbaaGreatDoor
open Go.RowKit
open NumMath (md)
theorem refOutF_any (cs:List Value) (b x all:Int) (w:World) (h11:cs[11]?=some (.int .i64 b)) (x0:0≤x) (x1:x<all) (x2:all≤3200000) :
  Calls Tryz.prog 12 #[.agg cs.toArray,.int .i64 x,.int .i64 all] w fun e w'=>e=.returned (.int .i64 (outM b x all))∧Below w.heap.size w w':=by
 have c11:=(Bx.new w 29 cs).cell 11 h11
 have HB:=Lib.hid (up_alloc (Below.refl w.heap.size w) (.cells cs.toArray 29))
 clear h11
 generalize cs.toArray=ca at *
 unfold outM
 obtain ⟨u,hu⟩:∃ u,(b != 1)=u:=⟨_,rfl⟩
 have hu2:b=1↔u=false:=by rw [←hu];simp
 simp only [hu2]
 clear hu2
 cases u
 ·obtain ⟨q,hq⟩:∃ q,all-1=q:=⟨_,rfl⟩
  obtain ⟨r,hr⟩:∃ r,q-x=r:=⟨_,rfl⟩
  rw [hq,hr]
  by_cases hx:x<r
  all_goals
   go_enter Tryz.func12,Tryz.ntmps12
   go_wp2
   go_ret
   exact ⟨by simp [hx],HB.out⟩
 ·go_enter Tryz.func12,Tryz.ntmps12
  go_wp2
  go_ret
  exact ⟨by simp,HB.out⟩
set_option maxRecDepth 100000 in
set_option maxHeartbeats 1000000 in
theorem refCreep_core (cs:List Value) (x all o F k1 k2 k3 p r:Int) (V:Bool) (w:World) (hL:cs.length=33) (h22:cs[22]?=some (.int .i64 k1)) (h23:cs[23]?=some (.int .i64 k2)) (h24:cs[24]?=some (.int .i64 k3)) (x0:0≤x) (x1:x<all)
  (hF:(0≤F∧r=0∧V=false)∨(F<0∧o*k1=p∧(0≤p∧p≤320000000000)∧∀ w1,Calls Tryz.prog 26 #[.int .i64 p,.int .i64 k2,.int .i64 k3] w1 fun e w'=>e=.returned (.tuple #[.int .i64 r,.bool V])∧w1=w'))
  (KF:∀ w1,Below w.heap.size w w1→Calls Tryz.prog 8 #[.agg cs.toArray] w1 fun e w'=>e=.returned (.int .i64 F)∧Below w1.heap.size w1 w')
  (KO:∀ w1,Below w.heap.size w w1→Calls Tryz.prog 12 #[.agg cs.toArray,.int .i64 x,.int .i64 all] w1 fun e w'=>e=.returned (.int .i64 o)∧Below w1.heap.size w1 w') :
  Calls Tryz.prog 10 #[.agg cs.toArray,.int .i64 x,.int .i64 all] w fun e w'=>e=.returned (.tuple #[.int .i64 r,.bool V])∧Below w.heap.size w w':=by
 have HX:=Lib.hid (Bx.new w 29 cs)
 have HB:=Lib.hid (up_alloc (Below.refl w.heap.size w) (.cells cs.toArray 29))
 have HL:=Lib.hid hL;have H22:=Lib.hid h22;have H23:=Lib.hid h23;have H24:=Lib.hid h24
 have HF:=Lib.hid hF;have HKF:=Lib.hid KF;have HKO:=Lib.hid KO
 have z1:decide (x<0)=false:=decide_eq_false (by omega)
 have z2:decide (all≤x)=false:=decide_eq_false (by omega)
 clear hL h22 h23 h24 hF KF KO
 go_enter Tryz.func10,Tryz.ntmps10
 go_wp2_with (refine wpList_load_job rfl _ rfl w.heap.size rfl cs HX.out HL.out ?_;simp only [Act.put,List.setIfInBounds_toArray,List.set_cons_succ,List.set_cons_zero])
 refine (HKF.out _ HB.out).mono ?_
 rintro e w1 ⟨rfl,hb⟩
 have HX1:=Lib.hid (HX.out.later (by rw [HL.out];decide) hb)
 have HB1:=Lib.hid (up_trans HB.out hb)
 clear hb
 rcases HF.out with ⟨hF0,rfl,rfl⟩ | ⟨hF0,hp,hp2,hM⟩
 ·have f0:decide (0≤F)=true:=decide_eq_true hF0
  clear HF
  go_wp2
  exact bodyPost_ret (v:=.tuple #[.int .i64 0,.bool false]) (by simp [results,Tryz.results10,go_sem]) rfl ⟨rfl,HB1.out⟩
 ·have f0:decide (0≤F)=false:=decide_eq_false (by omega)
  have HM:=Lib.hid hM
  have hw:wrap64 (o*k1)=p:=by rw [hp];exact IntWalk.wrap64_in _ (by omega)
  have HRG:=Lib.hid (later_range HX1.out (by rw [HL.out];decide))
  have j22:=fun y:Later w1=>y.cell (HX1.out.cell 22 H22.out)
  have j23:=fun y:Later w1=>y.cell (HX1.out.cell 23 H23.out)
  have j24:=fun y:Later w1=>y.cell (HX1.out.cell 24 H24.out)
  clear HF hM
  go_wp2_with fail
  refine later_start (w:=w1) ?_
  intro v
  refine wp_region_later (by kernel_rfl) (by kernel_rfl) ?_
  repeat (first
   | (go_big_quiet_want;refine quiet_load_job _ rfl w.heap.size rfl cs HL.out HRG.out ?_;simp only [Act.put,List.setIfInBounds_toArray,List.set_cons_succ,List.set_cons_zero];go_big_quiet_on)
   | go_big_quiet_step ((first | (go_at_call 12;with_reducible exact Later.call (HKO.out _ (up_trans HB1.out (Later.up _)))) | (go_at_call 26;with_reducible exact Later.call ((HM.out _).mono fun e w' ⟨he,hw⟩=>⟨he,hw ▸ Below.refl _ _⟩)))))
  refine wpQuiet_nil ?_
  rintro _ ⟨v2,rfl⟩
  clear j22 j23 j24
  go_wp2
  exact bodyPost_ret (v:=.tuple #[.int .i64 r,.bool V]) (by simp [results,Tryz.results10,go_sem]) rfl ⟨rfl,up_trans HB1.out v2.up⟩
theorem refCreep_any (cs:List Value) (j:Jb) (x:Int) (w:World) (h:JobA w cs j) (x0:0≤x) (x1:x<lvsJ j) :
  Calls Tryz.prog 10 #[.agg cs.toArray,.int .i64 x,.int .i64 (lvsJ j:Int)] w fun e w'=>e=.returned (.tuple #[.int .i64 (crpO j x),.bool (isCr j x)])∧Below w.heap.size w w':=by
 have hs:=lvs_small j
 have hb:=outM_bounds (b:=j.n 10) x0 x1
 have hh:hasL j x=true:=has_iff.2 ⟨x0,x1⟩
 refine refCreep_core cs x _ (outM (j.n 10) x (lvsJ j)) (firstJ j.n) (j.n 17) (j.n 18) (j.n 19) (outM (j.n 10) x (lvsJ j)*j.n 17) _ _ w h.length (h.num (k:=17) (by decide)) (h.num (k:=18) (by decide)) (h.num (k:=19) (by decide)) x0 x1 ?_
  (fun w1 hb=>refFirst_any cs j.n w1 h.length fun k hk=>h.num hk) (fun w1 _=>refOutF_any cs (j.n 10) x _ w1 (h.num (k:=10) (by decide)) x0 x1 (by omega))
 by_cases hF:firstJ j.n<0
 ·right
  obtain ⟨k0,k1,k2⟩:=crp_bounds hF hb.1 (by omega)
  have e:isCr j x=true:=by unfold isCr;rw [hh,decide_eq_true hF];rfl
  obtain ⟨⟨a0,a1⟩,⟨b0,b1⟩,c0,c1⟩:=cr_facts hF
  refine ⟨hF,rfl,k0,fun w1=>?_⟩
  have:=refMulDiv_any (outM (j.n 10) x (lvsJ j)*j.n 17) (j.n 18) (j.n 19) w1 (by omega) (by omega) (by omega) (by omega) (by omega) (by omega)
  rw [crp_md hF hb.1 (by omega)] at this
  unfold crpO
  rw [e]
  simpa using this
 ·left
  have e:isCr j x=false:=by unfold isCr;rw [decide_eq_false hF];rfl
  unfold crpO
  rw [e]
  exact ⟨by omega,rfl,rfl⟩
end Go.Proofs.YtbbjileignefbaaGreatDoor
namespace Go.Proofs.YtbbjileignefbaaGreatDoor
open Go.RowKit
theorem usual_kept {w w':World} {B:Nat} {cs:List Value} (h:JobA w cs usualJ) (hB:w.heap.size≤B) (hk:∀ p:Addr,p.block≠B→∀ v,w.cell? p=some v→w'.cell? p=some v):JobA w' cs usualJ:=by
 obtain ⟨a,c,a',c',e,h1,h2⟩:=h
 exact ⟨a,c,a',c',e,(h1.liG.keep (B:=B) (by omega) hk).inL,.inl rfl⟩
def CrOutside:Prop:=∀ (cs:List Value) (j:Jb) (x:Int) (w:World),JobA w cs j→WfF j→GoodM w→Int64 x →
 Calls Tryz.prog 11 #[.agg cs.toArray,.int .i64 x] w fun e w'=>e=.returned (.int .i64 (outO j x))∧Below w.heap.size w w'
def CrOf:Prop:=∀ (cs:List Value) (j:Jb) (x:Int) (w:World),JobA w cs j→WfF j→GoodM w→Int64 x →
 Calls Tryz.prog 9 #[.agg cs.toArray,.int .i64 x] w fun e w'=>e=.returned (.tuple #[.int .i64 (crpO j x),.bool (isCr j x)])∧Below w.heap.size w w'
def CrMost:Prop:=∀ (cs:List Value) (j:Jb) (w:World),JobA w cs j→WfF j→GoodM w →
 Calls Tryz.prog 13 #[.agg cs.toArray] w fun e w'=>e=.returned (.tuple #[.int .i64 (mostN j (lvsJ j)),.bool (isMost j)])∧Below w.heap.size w w'
theorem usu_of:crpO usualJ 2=200∧isCr usualJ 2=true:=by decide +kernel
theorem usu_most:mostN usualJ (lvsJ usualJ)=300∧isMost usualJ=true:=by decide +kernel
theorem usu_out:outO usualJ 7=0:=by decide +kernel
set_option maxRecDepth 100000 in
set_option maxHeartbeats 1000000 in
theorem crAlive_any (KO:CrOutside) (KF:CrOf) (KM:CrMost) (w:World) (hg:GoodM w):Calls Tryz.prog 5 #[] w fun e w'=>e=.returned (.bool true)∧Below w.heap.size w w':=by
 have HU:=Lib.hid (refUsual_any w)
 have HG:=Lib.hid hg
 have HKO:=Lib.hid KO;have HKF:=Lib.hid KF;have HKM:=Lib.hid KM
 clear hg KO KF KM
 go_enter Tryz.func5,Tryz.ntmps5
 go_wp2_with fail
 refine HU.out.mono ?_
 rintro e w1 ⟨cs,rfl,hJ,hb⟩
 have hl:=hJ.jobA.length
 have HL:=Lib.hid hl
 have H1:=Lib.hid hJ.jobA.one
 have HZ:=Lib.hid (Bx.new w1 29 zeroL)
 have HJ:=Lib.hid hJ
 have HB:=Lib.hid (up_alloc hb (.cells zeroL.toArray 29))
 have HK:=Lib.hid (show ∀ p:Addr,p.block≠w1.heap.size→∀ v,w1.cell? p=some v→(w1.alloc (.cells zeroL.toArray 29)).cell? p=some v from fun p _ v hv=>bl_cell (up_alloc (Below.refl _ w1) _) hv)
 have hlow:=hb.size
 clear hJ hl hb
 go_wp2_with (first
  | (refine wpList_alloc_to rfl 29 rfl _ _ (job_alloc _) ?_;simp only [Act.put,List.setIfInBounds_toArray,List.set_cons_succ,List.set_cons_zero];obtain ⟨w2,hw2⟩:∃ w2,w1.alloc (.cells zeroL.toArray 29)=w2:=⟨_,rfl⟩;rw [hw2] at HZ HB HK ⊢;clear hw2)
  | (refine wpList_store_job rfl _ _ rfl w1.heap.size rfl zeroL cs rfl HZ.out rfl HL.out H1.out ?_;simp only [Act.put];refine wpList_nil ?_;rename_i hK;refine hK _ _ ?_;clear hK;refine Hid.out ?_))
 refine Lib.hid ?_
 have HX3:=Lib.hid (HZ.out.sets (ws:=cs) (by rw [HL.out];rfl))
 have HB3:=Lib.hid (below_setCells (show w.heap.size≤w1.heap.size from hlow) cs 0 _ HB.out)
 have HJ3:=Lib.hid (usual_kept HJ.out.jobA (w':=w2.setCells w1.heap.size 0 cs) (B:=w1.heap.size) (Nat.le_refl _) (fun p hp v hv=>keep_sets _ w1.heap.size 0 cs p hp v (HK.out p hp v hv)))
 obtain ⟨w3,hw3⟩:∃ w3,w2.setCells w1.heap.size 0 cs=w3:=⟨_,rfl⟩
 rw [hw3] at HX3 HB3 HJ3 ⊢
 clear hw3 HZ HB HK HJ
 have hf:WfF usualJ:=⟨by decide,by decide⟩
 have i2:Int64 2:=by unfold Int64;omega
 have i7:Int64 7:=by unfold Int64;omega
 go_wp2_with (refine wpList_load_job rfl _ rfl w1.heap.size rfl cs HX3.out HL.out ?_;simp only [Act.put,List.setIfInBounds_toArray,List.set_cons_succ,List.set_cons_zero])
 refine (HKF.out cs usualJ 2 _ HJ3.out hf (HG.out.below HB3.out) i2).mono ?_
 rw [usu_of.1,usu_of.2]
 rintro e w4 ⟨rfl,hb⟩
 have HX4:=Lib.hid (HX3.out.later (by rw [HL.out];decide) hb)
 have HJ4:=Lib.hid (HJ3.out.up hb)
 have HB4:=Lib.hid (up_trans HB3.out hb)
 clear hb
 go_wp2_with (refine wpList_load_job rfl _ rfl w1.heap.size rfl cs HX4.out HL.out ?_;simp only [Act.put,List.setIfInBounds_toArray,List.set_cons_succ,List.set_cons_zero])
 refine (HKM.out cs usualJ _ HJ4.out hf (HG.out.below HB4.out)).mono ?_
 rw [usu_most.1,usu_most.2]
 rintro e w5 ⟨rfl,hb⟩
 have HX5:=Lib.hid (HX4.out.later (by rw [HL.out];decide) hb)
 have HJ5:=Lib.hid (HJ4.out.up hb)
 have HB5:=Lib.hid (up_trans HB4.out hb)
 clear hb
 go_wp2_with (refine wpList_load_job_want _ rfl rfl w1.heap.size rfl cs HX5.out HL.out ?_;simp only [Act.put,List.setIfInBounds_toArray,List.set_cons_succ,List.set_cons_zero])
 refine (HKO.out cs usualJ 7 _ HJ5.out hf (HG.out.below HB5.out) i7).mono ?_
 rw [usu_out]
 rintro e w6 ⟨rfl,hb⟩
 have HB6:=Lib.hid (up_trans HB5.out hb)
 clear hb
 go_wp2
 go_ret
 exact ⟨rfl,HB6.out⟩
end Go.Proofs.YtbbjileignefbaaGreatDoor
namespace Go.Proofs.YtbbjileignefbaaGreatDoor
structure Bk where
 b:Int
 cp:Int
 n:Int
 T:Int
 e:Int
 d:Int
def bkJ (j:Jb):Bk:=if mayM j=true then ⟨j.n 10,copM j,cntS j,leavesS j,panS j.f,panS (lastS j)⟩ else ⟨0,0,0,0,0,0⟩
def bkPan (k:Bk) (s:Int):Int:=if s=k.n-1 then k.d else k.e
def bkPlace (k:Bk) (s c:Int):Int:=if c=1 then k.n-1-s else s
def bkOut (k:Bk) (x:Int):Int:=min x (k.T-1-x)
def bkFrom (k:Bk) (x:Int):Int×Int :=
 if k.b=1 then ((bkOut k x).tdiv (k.e.tdiv 2),if bkOut k x<x then bkPan k ((bkOut k x).tdiv (k.e.tdiv 2))-1-(bkOut k x).tmod (k.e.tdiv 2) else (bkOut k x).tmod (k.e.tdiv 2))
 else if k.b=3 then (x.tmod k.n,x.tdiv k.n) else (x.tdiv k.e,x.tmod k.e)
theorem copM_ways {j:Jb} (h:mayM j=true):copM j=if j.n 10=4 then 2 else 1:=by unfold copM;rw [if_pos h]
theorem bk_facts {j:Jb} (h:mayM j=true):bkJ j=⟨j.n 10,copM j,(ofM j).length,leafN (panN (ofM j)) (ofM j).length,panJ j,(panS (lastS j)).toNat⟩∧0<(ofM j).length∧(ofM j).length≤50000
  ∧ 1≤panJ j∧panJ j≤64∧1≤(panS (lastS j)).toNat∧(panS (lastS j)).toNat≤panJ j:=by
 obtain ⟨-,hp,-⟩:=may_facts h
 obtain ⟨p1,p2,p3,p4,p5,p6,p7,p8⟩:=part_facts hp
 have h0:=of_length j
 have h1:=leafN_all hp
 have h2:0<(ofM j).length:=by
  unfold mayM at h
  simp only [Bool.and_eq_true,decide_eq_true_eq] at h
  exact h.2.1
 refine ⟨?_,h2,of_small j,by unfold panJ;omega,by unfold panJ;omega,by omega,by unfold panJ;omega⟩
 unfold bkJ panJ
 rw [if_pos h,h0,h1,Int.toNat_of_nonneg (by omega),Int.toNat_of_nonneg (by omega)]
theorem bk_pan {j:Jb} (h:mayM j=true) {i:Nat} (hi:i<(ofM j).length):bkPan (bkJ j) i=(panN (ofM j) i:Nat):=by
 obtain ⟨e,h0,-⟩:=bk_facts h
 rw [panN_at (may_facts h).2.1 hi,e]
 unfold bkPan
 simp only
 by_cases hl:i+1=(ofM j).length
 ·rw [if_pos hl,if_pos (by omega)]
 ·rw [if_neg hl,if_neg (by omega)]
theorem even_mul {e:Nat} (h:e%2=0) (i:Nat):i*e / 2=i*(e / 2)∧i*(e / 2)+i*(e / 2)=i*e:=by
 have h1:e=e / 2+e / 2:=by omega
 have h2:i*e=i*(e / 2)+i*(e / 2):=by rw [←Nat.mul_add,←h1]
 omega
theorem leafN_upto {j:Jb} (h:partB j=true) {i:Nat} (hi:i<(ofM j).length):i*panJ j+panN (ofM j) i≤leafN (panN (ofM j)) (ofM j).length:=by
 have h1:=leafN_mono (n:=panN (ofM j)) (i:=i+1) (K:=(ofM j).length) hi
 rw [leafN,leafN_ahead h i hi] at h1
 exact h1
theorem nest_half {j:Jb} (h:mayM j=true) (hb:j.n 10=1):panJ j%2=0:=nest_pan ((may_facts h).2.2 hb)
theorem bk_from {j:Jb} {c:Int} (hc:¬ (c<0∨copM j≤c)) {i a:Nat} (hi:i<(ofM j).length) (ha:a<panN (ofM j) i):bkPlace (bkJ j) (bkFrom (bkJ j) (posM j c i a:Nat)).1 c=i∧(bkFrom (bkJ j) (posM j c i a:Nat)).2=a:=by
 obtain ⟨hm,hw⟩:=cop_may hc
 obtain ⟨e,h0,h1,h2,h3,h4,h5⟩:=bk_facts hm
 obtain ⟨hb,hp,-⟩:=may_facts hm
 have hpan:=bk_pan hm hi
 have hpe:panN (ofM j) i≤panJ j:=by rw [panN_at hp hi];split<;>omega
 have hgo:∀ p:Nat,((p*panJ j+a:Nat):Int).tdiv (panJ j:Int)=p∧((p*panJ j+a:Nat):Int).tmod (panJ j:Int)=a:=fun p=>by
  have e1:(p*panJ j+a) / panJ j=p:=by rw [Nat.mul_comm,Nat.mul_add_div (by omega),Nat.div_eq_of_lt (by omega),Nat.add_zero]
  have e2:(p*panJ j+a)%panJ j=a:=by rw [Nat.mul_comm,Nat.mul_add_mod,Nat.mod_eq_of_lt (by omega)]
  exact ⟨by rw [show ((p*panJ j+a:Nat):Int).tdiv (panJ j:Int)=(((p*panJ j+a) / panJ j:Nat):Int) from rfl,e1],by rw [show ((p*panJ j+a:Nat):Int).tmod (panJ j:Int)=(((p*panJ j+a)%panJ j:Nat):Int) from rfl,e2]⟩
 rcases hw with rfl | ⟨rfl,h4⟩
 ·have ep:∀ s,bkPlace (bkJ j) s 0=s:=fun s=>by unfold bkPlace;rw [if_neg (by decide)]
  rw [ep]
  by_cases b1:j.n 10=1
  ·obtain ⟨q1,q2⟩:=pos_into hm b1 hi ha
   have hup:=leafN_upto hp hi
   have hev:=panN_even hm b1 i
   have hE:=nest_half hm b1
   obtain ⟨m1,m2⟩:=even_mul hE i
   have hq:1≤panJ j / 2:=by omega
   have hback:∀ y:Nat,y<panJ j / 2→((i*(panJ j / 2)+y:Nat):Int).tdiv ((panJ j:Int).tdiv 2)=i∧((i*(panJ j / 2)+y:Nat):Int).tmod ((panJ j:Int).tdiv 2)=y:=fun y hy=>by
    have e1:(i*(panJ j / 2)+y) / (panJ j / 2)=i:=by rw [Nat.mul_comm,Nat.mul_add_div (by omega),Nat.div_eq_of_lt hy,Nat.add_zero]
    have e2:(i*(panJ j / 2)+y)%(panJ j / 2)=y:=by rw [Nat.mul_comm,Nat.mul_add_mod,Nat.mod_eq_of_lt hy]
    exact ⟨by rw [show ((i*(panJ j / 2)+y:Nat):Int).tdiv ((panJ j:Int).tdiv 2)=(((i*(panJ j / 2)+y) / (panJ j / 2):Nat):Int) from rfl,e1],by rw [show ((i*(panJ j / 2)+y:Nat):Int).tmod ((panJ j:Int).tdiv 2)=(((i*(panJ j / 2)+y)%(panJ j / 2):Nat):Int) from rfl,e2]⟩
   unfold bkFrom
   rw [show (bkJ j).b=1 by rw [e];exact b1,show (bkJ j).e=panJ j by rw [e]]
   rw [if_pos rfl]
   simp only
   by_cases hh:a<panN (ofM j) i / 2
   ·have ex:=q1 hh
    have eo:bkOut (bkJ j) (posM j 0 i a:Nat)=((i*(panJ j / 2)+a:Nat):Int):=by
     unfold bkOut
     rw [e]
     simp only
     omega
    obtain ⟨g1,g2⟩:=hback a (by omega)
    rw [eo,g1,g2,if_neg (by omega)]
    exact ⟨rfl,rfl⟩
   ·have ex:=q2 (by omega)
    have eo:bkOut (bkJ j) (posM j 0 i a:Nat)=((i*(panJ j / 2)+(panN (ofM j) i-1-a):Nat):Int):=by
     unfold bkOut
     rw [e]
     simp only
     omega
    obtain ⟨g1,g2⟩:=hback (panN (ofM j) i-1-a) (by omega)
    rw [eo,g1,g2,if_pos (by omega),hpan]
    omega
  ·unfold bkFrom
   rw [show (bkJ j).b=j.n 10 by rw [e],if_neg b1]
   by_cases b3:j.n 10=3
   ·rw [if_pos b3,pos_stack b3,show (bkJ j).n=(ofM j).length by rw [e]]
    have e1:(a*(ofM j).length+i) / (ofM j).length=a:=by rw [Nat.mul_comm,Nat.mul_add_div (by omega),Nat.div_eq_of_lt hi,Nat.add_zero]
    have e2:(a*(ofM j).length+i)%(ofM j).length=i:=by rw [Nat.mul_comm,Nat.mul_add_mod,Nat.mod_eq_of_lt hi]
    simp only
    exact ⟨by rw [show ((a*(ofM j).length+i:Nat):Int).tmod ((ofM j).length:Int)=(((a*(ofM j).length+i)%(ofM j).length:Nat):Int) from rfl,e2],by rw [show ((a*(ofM j).length+i:Nat):Int).tdiv ((ofM j).length:Int)=(((a*(ofM j).length+i) / (ofM j).length:Nat):Int) from rfl,e1]⟩
   ·rw [if_neg b3,pos_behind hp b1 b3 hi ha,show (bkJ j).e=panJ j by rw [e]]
    exact hgo i
 ·unfold bkFrom
  rw [show (bkJ j).b=j.n 10 by rw [e],if_neg (by omega),if_neg (by omega),pos_ahead hp h4 hi ha,show (bkJ j).e=panJ j by rw [e]]
  obtain ⟨g1,g2⟩:=hgo ((ofM j).length-1-i)
  simp only [g1,g2]
  refine ⟨?_,trivial⟩
  unfold bkPlace
  rw [if_pos rfl,e]
  simp only
  omega
end Go.Proofs.YtbbjileignefbaaGreatDoor
namespace Go.Proofs.YtbbjileignefbaaGreatDoor
open Go.RowKit
theorem ordHas_any (n k:Int) (w:World) (h1:0≤n) (h2:n≤1000000000) :
  Calls Tryz.prog 54 #[.int .i64 n,.int .i64 k] w fun e w'=>e=.returned (.bool (decide (0≤k)&&decide (k≤n-1)))∧w=w':=by
 obtain ⟨m,hm⟩:∃ m,n-1=m:=⟨_,rfl⟩
 rw [hm]
 have H:=Lib.hid (fun w=>in_any k 0 m w)
 go_enter Tryz.func54,Tryz.ntmps54
 go_wp2_with fail
 refine (H.out _).mono ?_
 rintro e w1 ⟨rfl,rfl⟩
 go_wp2
 go_ret
 exact ⟨rfl,rfl⟩
theorem ordNum_any (b:Int) (w:World):Calls Tryz.prog 72 #[.int .i64 b] w fun e w'=>e=.returned (.int .i64 (if b=4 then 2 else 1))∧Below w.heap.size w w':=by
 by_cases h:b=4
 ·have E:=Lib.hid (show (if b=4 then (2:Int) else 1)=2 from if_pos h)
  have e1:(b==4)=true:=by simp [h]
  go_enter Tryz.func72,Tryz.ntmps72
  go_wp2
  go_ret
  exact ⟨rfl,Below.refl _ _⟩
 ·have E:=Lib.hid (show (if b=4 then (2:Int) else 1)=1 from if_neg h)
  have e1:(b==4)=false:=by simp [h]
  go_enter Tryz.func72,Tryz.ntmps72
  go_wp2
  go_ret
  exact ⟨rfl,Below.refl _ _⟩
theorem ordPanels_any (b cp n T e d s:Int) (w:World) (h1:0≤n) (h2:n≤1000000000) :
  Calls Tryz.prog 73 #[.agg #[.int .i64 b,.int .i64 cp,.int .i64 n,.int .i64 T,.int .i64 e,.int .i64 d],.int .i64 s] w fun x w'=>x=.returned (.int .i64 (bkPan ⟨b,cp,n,T,e,d⟩ s))∧Below w.heap.size w w':=by
 have X:=Bx.new w 82 [.int .i64 b,.int .i64 cp,.int .i64 n,.int .i64 T,.int .i64 e,.int .i64 d]
 have B:=Lib.hid (up_alloc (Below.refl w.heap.size w) (.cells #[.int .i64 b,.int .i64 cp,.int .i64 n,.int .i64 T,.int .i64 e,.int .i64 d] 82))
 have c2:=X.cell 2 rfl;have c4:=X.cell 4 rfl;have c5:=X.cell 5 rfl
 clear X
 obtain ⟨m,hm⟩:∃ m,n-1=m:=⟨_,rfl⟩
 by_cases h:s=m
 ·have E:=Lib.hid (show bkPan ⟨b,cp,n,T,e,d⟩ s=d by unfold bkPan;simp only;rw [if_pos (by omega)])
  have e1:(s==m)=true:=by simp [h]
  go_enter Tryz.func73,Tryz.ntmps73
  go_wp2
  go_ret
  exact ⟨by rw [E.out];rfl,B.out⟩
 ·have E:=Lib.hid (show bkPan ⟨b,cp,n,T,e,d⟩ s=e by unfold bkPan;simp only;rw [if_neg (by omega)])
  have e1:(s==m)=false:=by simp [h]
  go_enter Tryz.func73,Tryz.ntmps73
  go_wp2
  go_ret
  exact ⟨by rw [E.out];rfl,B.out⟩
theorem ordPlace_any (b cp n T e d s c:Int) (w:World) (h1:0≤n) (h2:n≤1000000000) (s1:-1000000000≤s) (s2:s≤1000000000) :
  Calls Tryz.prog 56 #[.agg #[.int .i64 b,.int .i64 cp,.int .i64 n,.int .i64 T,.int .i64 e,.int .i64 d],.int .i64 s,.int .i64 c] w fun x w'=>x=.returned (.int .i64 (bkPlace ⟨b,cp,n,T,e,d⟩ s c))∧Below w.heap.size w w':=by
 have X:=Bx.new w 82 [.int .i64 b,.int .i64 cp,.int .i64 n,.int .i64 T,.int .i64 e,.int .i64 d]
 have B:=Lib.hid (up_alloc (Below.refl w.heap.size w) (.cells #[.int .i64 b,.int .i64 cp,.int .i64 n,.int .i64 T,.int .i64 e,.int .i64 d] 82))
 have c2:=X.cell 2 rfl
 clear X
 obtain ⟨m,hm⟩:∃ m,n-1=m:=⟨_,rfl⟩
 obtain ⟨q,hq⟩:∃ q,m-s=q:=⟨_,rfl⟩
 by_cases h:c=1
 ·have E:=Lib.hid (show bkPlace ⟨b,cp,n,T,e,d⟩ s c=q by unfold bkPlace;simp only;rw [if_pos h];omega)
  have e1:(c==1)=true:=by simp [h]
  go_enter Tryz.func56,Tryz.ntmps56
  go_wp2
  go_ret
  exact ⟨by rw [E.out];rfl,B.out⟩
 ·have E:=Lib.hid (show bkPlace ⟨b,cp,n,T,e,d⟩ s c=s by unfold bkPlace;rw [if_neg h])
  have e1:(c==1)=false:=by simp [h]
  go_enter Tryz.func56,Tryz.ntmps56
  go_wp2
  go_ret
  exact ⟨by rw [E.out];rfl,B.out⟩
end Go.Proofs.YtbbjileignefbaaGreatDoor
