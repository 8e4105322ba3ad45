/- Part 16 of the texts that the proofs of this seat share: OrderReckon, OrderBound, OrderTop, NumCode, NumGuess, NumDiv. -/
import Derived.Test.YtbbjileignefbaaGreatDoorPart15
import Derived.Test.YtbbjileignefbaaGreatDoorPart1
import Derived.Test.YtbbjileignefbaaGreatDoorPart13
import Derived.Test.YtbbjileignefbaaGreatDoorPart14
import Derived.Test.YtbbjileignefbaaGreatDoorPart10
import Derived.Lib.BitFns
import Derived.Lib.ItoaNum
import Derived.Deep.QuietTactic
import Derived.BigQuiet
set_option linter.unusedSectionVars false
set_option linter.unusedSimpArgs false
set_option linter.unusedVariables false
namespace Go.Proofs.YtbbjileignefbaaGreatDoor
open Go.RowKit
structure SmBk (n T e d:Int):Prop where
 n0:1≤n
 n1:n≤50000
 t0:0≤T
 t1:T≤1000000000
 e0:1≤e
 e1:e≤64
 d0:0≤d
 d1:d≤64
theorem ordFrom_sad (cp n T e d x o m h q r p:Int) (u:Bool) (w:World) (hm:T-1-x=m) (ho:min x m=o) (hh:e.tdiv 2=h) (hq:o.tdiv h=q) (hr:o.tmod h=r) (hp:bkPan ⟨1,cp,n,T,e,d⟩ q=p) (hu:decide (o<x)=u) (S:SmBk n T e d) (e2:2≤e) (x0:0≤x) (x1:x≤T-1) :
  Calls Tryz.prog 55 #[.agg #[.int .i64 1,.int .i64 cp,.int .i64 n,.int .i64 T,.int .i64 e,.int .i64 d],.int .i64 x] w fun y w'=>y=.returned (.tuple #[.int .i64 q,.int .i64 (if u=true then p-1-r else r)])∧Below w.heap.size w w':=by
 have X:=Bx.new w 82 [.int .i64 1,.int .i64 cp,.int .i64 n,.int .i64 T,.int .i64 e,.int .i64 d]
 have B:=Lib.hid (up_alloc (Below.refl w.heap.size w) (.cells #[.int .i64 1,.int .i64 cp,.int .i64 n,.int .i64 T,.int .i64 e,.int .i64 d] 82))
 have K:=fun w=>ordPanels_any 1 cp n T e d q w (by have:=S.n0;omega) (by have:=S.n1;omega)
 rw [hp] at K
 have HK:=Lib.hid K
 have t0:=S.t0;have t1:=S.t1
 have ⟨h0,h1⟩:1≤h∧h≤32:=by
  rw [←hh,Int.tdiv_eq_ediv_of_nonneg (by omega)]
  have:=S.e1
  omega
 have hz:¬ h=0:=by omega
 have hzb:(h==0)=false:=by simp;omega
 have ⟨o0,o1⟩:0≤o∧o≤1000000000:=by omega
 have ⟨q0,q1⟩:0≤q∧q≤1000000000:=by
  rw [←hq,Int.tdiv_eq_ediv_of_nonneg o0]
  have h2:=Int.ediv_nonneg o0 (show 0≤h by omega)
  have h3:o / h≤o:=Int.ediv_le_self _ o0
  exact ⟨h2,by omega⟩
 have ⟨r0,r1⟩:0≤r∧r≤32:=by
  rw [←hr,Int.tmod_eq_emod_of_nonneg o0]
  have h2:=Int.emod_nonneg o (show h≠0 by omega)
  have h3:=Int.emod_lt_of_pos o (show 0<h by omega)
  omega
 have hp2:0≤p∧p≤64:=by
  rw [←hp]
  unfold bkPan
  simp only
  have:=S.e0;have:=S.e1;have:=S.d0;have:=S.d1
  split<;>omega
 obtain ⟨p0,p1⟩:=hp2
 have c0:=X.cell 0 rfl;have c1:=X.cell 1 rfl;have c2:=X.cell 2 rfl;have c3:=X.cell 3 rfl;have c4:=X.cell 4 rfl;have c5:=X.cell 5 rfl
 obtain ⟨t,ht⟩:∃ t,T-1=t:=⟨_,rfl⟩
 have hm2:t-x=m:=by omega
 clear K hp S X hm
 go_enter Tryz.func55,Tryz.ntmps55
 go_wp2_with fail
 obtain ⟨w1,hw1⟩:∃ w1,w.alloc (.cells #[.int .i64 1,.int .i64 cp,.int .i64 n,.int .i64 T,.int .i64 e,.int .i64 d] 82)=w1:=⟨_,rfl⟩
 rw [hw1] at c0 c1 c2 c3 c4 c5 B ⊢
 clear hw1
 have j4:=fun y:Later w1=>y.cell c4
 have HC:=Lib.hid (And.intro c0 (And.intro c1 (And.intro c2 (And.intro c3 (And.intro c4 c5)))))
 clear c0 c1 c2 c3 c4 c5
 refine later_start (w:=w1) ?_
 intro y
 refine wp_region_later (by kernel_rfl) (by kernel_rfl) ?_
 repeat (go_big_quiet_step (fail))
 refine wpQuiet_nil ?_
 rintro _ ⟨y2,rfl⟩
 have BB:=Lib.hid (up_trans B.out y2.up)
 obtain ⟨c0,c1,c2,c3,c4,c5⟩:=HC.out
 have g0:=y2.cell c0;have g1:=y2.cell c1;have g2:=y2.cell c2;have g3:=y2.cell c3;have g4:=y2.cell c4;have g5:=y2.cell c5
 obtain ⟨w2,hw2⟩:∃ w2,y2.now=w2:=⟨_,rfl⟩
 rw [hw2] at BB g0 g1 g2 g3 g4 g5 ⊢
 clear hw2 j4 c0 c1 c2 c3 c4 c5 HC y y2
 cases u
 ·have E:=Lib.hid (show (if false=true then p-1-r else r)=r from if_neg (by decide))
  go_wp2
  go_ret2
  exact ⟨rfl,BB.out⟩
 ·have E:=Lib.hid (show (if true=true then p-1-r else r)=p-1-r from if_pos rfl)
  go_wp2_with fail
  refine (HK.out _).mono ?_
  rintro v w3 ⟨rfl,hb⟩
  have B3:=Lib.hid (up_trans BB.out hb)
  clear hb g0 g1 g2 g3 g4 g5
  go_wp2
  go_ret2
  exact ⟨rfl,B3.out⟩
theorem ordFrom_not (b cp n T e d x q r q2 r2:Int) (u:Bool) (w:World) (hb:(b==1)=false) (hu:(b==3)=u) (hq:x.tdiv e=q) (hr:x.tmod e=r) (hq2:x.tdiv n=q2) (hr2:x.tmod n=r2) (S:SmBk n T e d) (x0:0≤x) (x1:x≤T-1) :
  Calls Tryz.prog 55 #[.agg #[.int .i64 b,.int .i64 cp,.int .i64 n,.int .i64 T,.int .i64 e,.int .i64 d],.int .i64 x] w fun y w'=>y=.returned (.tuple #[.int .i64 (if u=true then r2 else q),.int .i64 (if u=true then q2 else r)])∧Below w.heap.size w w':=by
 have X:=Bx.new w 82 [.int .i64 b,.int .i64 cp,.int .i64 n,.int .i64 T,.int .i64 e,.int .i64 d]
 have B:=Lib.hid (up_alloc (Below.refl w.heap.size w) (.cells #[.int .i64 b,.int .i64 cp,.int .i64 n,.int .i64 T,.int .i64 e,.int .i64 d] 82))
 have t0:=S.t0;have t1:=S.t1;have n0:=S.n0;have n1:=S.n1;have e0:=S.e0;have e1:=S.e1
 have hez:¬ e=0:=by omega
 have hezb:(e==0)=false:=by simp;omega
 have hnz:¬ n=0:=by omega
 have hnzb:(n==0)=false:=by simp;omega
 have ⟨q0,q1⟩:0≤q∧q≤1000000000:=by
  rw [←hq,Int.tdiv_eq_ediv_of_nonneg x0]
  have h2:=Int.ediv_nonneg x0 (show 0≤e by omega)
  have h3:x / e≤x:=Int.ediv_le_self _ x0
  exact ⟨h2,by omega⟩
 have ⟨r0,r1⟩:0≤r∧r≤1000000000:=by
  rw [←hr,Int.tmod_eq_emod_of_nonneg x0]
  have h2:=Int.emod_nonneg x (show e≠0 by omega)
  have h3:=Int.emod_lt_of_pos x (show 0<e by omega)
  omega
 have ⟨q20,q21⟩:0≤q2∧q2≤1000000000:=by
  rw [←hq2,Int.tdiv_eq_ediv_of_nonneg x0]
  have h2:=Int.ediv_nonneg x0 (show 0≤n by omega)
  have h3:x / n≤x:=Int.ediv_le_self _ x0
  exact ⟨h2,by omega⟩
 have ⟨r20,r21⟩:0≤r2∧r2≤1000000000:=by
  rw [←hr2,Int.tmod_eq_emod_of_nonneg x0]
  have h2:=Int.emod_nonneg x (show n≠0 by omega)
  have h3:=Int.emod_lt_of_pos x (show 0<n by omega)
  omega
 have c0:=X.cell 0 rfl;have c2:=X.cell 2 rfl;have c4:=X.cell 4 rfl
 clear S X
 cases u
 ·have E:=Lib.hid (show (if false=true then r2 else q)=q from if_neg (by decide))
  have E2:=Lib.hid (show (if false=true then q2 else r)=r from if_neg (by decide))
  go_enter Tryz.func55,Tryz.ntmps55
  go_wp2_with fail
  obtain ⟨w1,hw1⟩:∃ w1,w.alloc (.cells #[.int .i64 b,.int .i64 cp,.int .i64 n,.int .i64 T,.int .i64 e,.int .i64 d] 82)=w1:=⟨_,rfl⟩
  rw [hw1] at c0 c2 c4 B ⊢
  clear hw1
  have j4:=fun y:Later w1=>y.cell c4
  clear c0 c2 c4
  refine later_start (w:=w1) ?_
  intro y
  refine wp_region_later (by kernel_rfl) (by kernel_rfl) ?_
  repeat (go_big_quiet_step (fail))
  refine wpQuiet_nil ?_
  rintro _ ⟨y2,rfl⟩
  have BB:=Lib.hid (up_trans B.out y2.up)
  clear j4
  go_wp2
  go_ret2
  exact ⟨rfl,BB.out⟩
 ·have E:=Lib.hid (show (if true=true then r2 else q)=r2 from if_pos rfl)
  have E2:=Lib.hid (show (if true=true then q2 else r)=q2 from if_pos rfl)
  go_enter Tryz.func55,Tryz.ntmps55
  go_wp2_with fail
  obtain ⟨w1,hw1⟩:∃ w1,w.alloc (.cells #[.int .i64 b,.int .i64 cp,.int .i64 n,.int .i64 T,.int .i64 e,.int .i64 d] 82)=w1:=⟨_,rfl⟩
  rw [hw1] at c0 c2 c4 B ⊢
  clear hw1
  have j2:=fun y:Later w1=>y.cell c2
  clear c0 c2 c4
  refine later_start (w:=w1) ?_
  intro y
  refine wp_region_later (by kernel_rfl) (by kernel_rfl) ?_
  repeat (go_big_quiet_step (fail))
  refine wpQuiet_nil ?_
  rintro _ ⟨y2,rfl⟩
  have BB:=Lib.hid (up_trans B.out y2.up)
  clear j2
  go_wp2
  go_ret2
  exact ⟨rfl,BB.out⟩
theorem ordFromK_any (b cp n T e d x:Int) (w:World) (S:SmBk n T e d) (e2:b=1→2≤e) (x0:0≤x) (x1:x≤T-1) :
  Calls Tryz.prog 55 #[.agg #[.int .i64 b,.int .i64 cp,.int .i64 n,.int .i64 T,.int .i64 e,.int .i64 d],.int .i64 x] w fun y w'=>y=.returned (.tuple #[.int .i64 (bkFrom ⟨b,cp,n,T,e,d⟩ x).1,.int .i64 (bkFrom ⟨b,cp,n,T,e,d⟩ x).2])∧Below w.heap.size w w':=by
 by_cases h1:b=1
 ·subst h1
  have K:=ordFrom_sad cp n T e d x _ _ _ _ _ _ _ w rfl rfl rfl rfl rfl rfl rfl S (e2 rfl) x0 x1
  unfold bkFrom bkOut
  rw [if_pos rfl]
  simp only [decide_eq_true_eq] at K
  exact K
 ·have K:=ordFrom_not b cp n T e d x _ _ _ _ _ w (by simp [h1]) rfl rfl rfl rfl rfl S x0 x1
  unfold bkFrom
  rw [if_neg h1]
  simp only [beq_iff_eq] at K
  by_cases h3:b=3
  ·simp only [if_pos h3] at K ⊢
   exact K
  ·simp only [if_neg h3] at K ⊢
   exact K
structure HeldB (R:Nat) (w:World) where
 now:World
 kept:∀ p:Addr,p.block≠R→∀ v,w.cell? p=some v→now.cell? p=some v
instance (R:Nat) (w:World):Nonempty (HeldB R w):=⟨⟨w,fun _ _ _ h=>h⟩⟩
theorem HeldB.cell {R B o:Nat} {w:World} {v:Value} (u:HeldB R w) (hB:B≠R) (h:w.cell? ⟨B,o,none⟩=some v):u.now.cell? ⟨B,o,none⟩=some v:=u.kept _ hB _ h
theorem heldB_drew (R:Nat) (w:World):∃ u:HeldB R w,w.drew=u.now:=⟨⟨w.drew,fun _ _ _ h=>h⟩,rfl⟩
theorem heldB_up {R:Nat} {w w':World} (h:Below w.heap.size w w'):∃ u:HeldB R w,w'=u.now:=⟨⟨w',fun _ _ _ hv=>bl_cell h hv⟩,rfl⟩
theorem heldB_sets {R:Nat} {w w':World} (h:Below w.heap.size w w') (o:Nat) (vs:List Value):∃ u:HeldB R w,w'.setCells R o vs=u.now:=⟨⟨_,fun p hp v hv=>by
 rw [World.cell?_setCells_out R vs o w' p (fun e _=>absurd e hp)]
 exact bl_cell h hv⟩,rfl⟩
theorem heldB_range {w:World} {R B:Nat} {cs:List Value} (hB:B≠R) (h:Bx w B cs):∀ w',(∃ u:HeldB R w,w'=u.now)→w'.rangeAt B 0 cs:=by
 rintro _ ⟨u,rfl⟩ j v hj
 exact u.kept _ hB _ (by simpa using h.cell j hj)
theorem ordBinds_core (cs:List Value) (b c r:Int) (a:Option Addr) (n cap:Nat) (u V I:Bool) (w:World) (h11:cs[11]?=some (.int .i64 b)) (h12:cs[12]?=some (.int .i64 c)) (h13:cs[13]?=some (.int .i64 r)) (h14:cs[14]?=some (.slice a n cap)) (hu:(b==1)=u)
  (KN:∀ w1,Below w.heap.size w w1→Calls Tryz.prog 76 #[.agg #[.int .i64 c,.int .i64 r,.slice a n cap]] w1 fun e w'=>e=.returned (.bool V)∧Below w1.heap.size w1 w')
  (KI:∀ w1,Calls Tryz.prog 36 #[.int .i64 b,.int .i64 1,.int .i64 4] w1 fun e w'=>e=.returned (.bool I)∧w1=w') :
  Calls Tryz.prog 71 #[.agg cs.toArray] w fun e w'=>e=.returned (.bool (if u=true then V else I))∧Below w.heap.size w w':=by
 have HX:=Bx.new w 29 cs
 have HB:=Lib.hid (up_alloc (Below.refl w.heap.size w) (.cells cs.toArray 29))
 have c11:=HX.cell 11 h11;have c12:=HX.cell 12 h12;have c13:=HX.cell 13 h13;have c14:=HX.cell 14 h14
 have HN:=Lib.hid KN;have HI:=Lib.hid KI
 clear KN KI h11 h12 h13 h14 HX
 generalize cs.toArray=ca at *
 cases u
 ·have E:=Lib.hid (show (if false=true then V else I)=I from if_neg (by decide))
  go_enter Tryz.func71,Tryz.ntmps71
  go_wp2_with fail
  refine (HI.out _).mono ?_
  rintro e w1 ⟨rfl,rfl⟩
  go_wp2
  go_ret
  exact ⟨rfl,HB.out⟩
 ·have E:=Lib.hid (show (if true=true then V else I)=V from if_pos rfl)
  go_enter Tryz.func71,Tryz.ntmps71
  go_wp2_with fail
  refine (HN.out _ HB.out).mono ?_
  rintro e w1 ⟨rfl,hb⟩
  have BB:=Lib.hid (up_trans HB.out hb)
  clear hb
  go_wp2
  go_ret
  exact ⟨rfl,BB.out⟩
theorem ordBinds_any (cs:List Value) (j:Jb) (w:World) (h:JobA w cs j) (hf:WfF j) (hl:j.f.l.length≤1000000) :
  Calls Tryz.prog 71 #[.agg cs.toArray] w fun e w'=>e=.returned (.bool (if j.n 10=1 then nestS j.f else inB (j.n 10) 1 4))∧Below w.heap.size w w':=by
 obtain ⟨a,c,a',c',h12,h13,h14,h15,hI,hT⟩:=h.cells
 have K:=ordBinds_core cs (j.n 10) j.f.c j.f.r a j.f.l.length c _ _ _ w (h.num (k:=10) (by decide)) h12 h13 h14 rfl (fun w1 hb=>spNests_any j.f a c w1 hf.1 hf.2 hl (hI.up hb)) (fun w1=>in_any (j.n 10) 1 4 w1)
 simp only [beq_iff_eq] at K
 exact K
theorem zero_book:(Tryz.prog.info? 82).map (·.size)=some 6:=by kernel_rfl
set_option maxRecDepth 100000 in
set_option maxHeartbeats 1000000 in
theorem ordBound_no (cs:List Value) (n m sc sr:Int) (sm:Nat) (f V:Bool) (w:World) (hL:cs.length=33) (n1:0≤n) (n2:n≤100000) (hm:n-1=m) (h:(f&&V)=false)
  (KC:∀ w1,Below w.heap.size w w1→Calls Tryz.prog 69 #[.agg cs.toArray] w1 fun e w'=>e=.returned (.int .i64 n)∧Below w1.heap.size w1 w')
  (KA:∀ w1,Below w.heap.size w w1→Calls Tryz.prog 70 #[.agg cs.toArray,.int .i64 m] w1 fun e w'=>∃ a k,e=.returned (.tuple #[.agg #[.int .i64 sc,.int .i64 sr,.slice a sm k],.bool f])∧Below w1.heap.size w1 w')
  (KB:f=true→∀ w1,Below w.heap.size w w1→Calls Tryz.prog 71 #[.agg cs.toArray] w1 fun e w'=>e=.returned (.bool V)∧Below w1.heap.size w1 w') :
  Calls Tryz.prog 53 #[.agg cs.toArray] w fun e w'=>e=.returned (.agg #[.int .i64 0,.int .i64 0,.int .i64 0,.int .i64 0,.int .i64 0,.int .i64 0])∧Below w.heap.size w w':=by
 have X1:=(Bx.new w 29 cs)
 have U1:=up_alloc (Below.refl w.heap.size w) (.cells cs.toArray 29)
 have V1:=up_alloc (Below.refl _ (w.alloc (.cells cs.toArray 29))) (.cells #[.int .i64 0,.int .i64 0,.int .i64 0,.int .i64 0,.int .i64 0,.int .i64 0] 82)
 have HX:=Lib.hid (X1.later (by rw [hL];decide) V1)
 have HB:=Lib.hid (up_trans U1 V1)
 have R1:=Bx.new (w.alloc (.cells cs.toArray 29)) 82 [.int .i64 0,.int .i64 0,.int .i64 0,.int .i64 0,.int .i64 0,.int .i64 0]
 rw [World.size_alloc] at R1
 have HR:=Lib.hid R1
 have HL:=Lib.hid hL;have HC:=Lib.hid KC;have HA:=Lib.hid KA;have HK:=Lib.hid KB
 clear X1 U1 V1 R1 hL KC KA KB
 go_enter Tryz.func53,Tryz.ntmps53
 go_wp2_with (refine wpList_load_job rfl _ rfl w.heap.size rfl cs HX.out HL.out ?_;simp only [Act.put,List.setIfInBounds_toArray,List.set_cons_succ,List.set_cons_zero])
 refine (HC.out _ HB.out).mono ?_
 rintro e w1 ⟨rfl,hb⟩
 have HX1:=Lib.hid (HX.out.later (by rw [HL.out];decide) hb)
 have HR1:=Lib.hid (HR.out.up hb)
 have HB1:=Lib.hid (up_trans HB.out hb)
 clear hb
 go_wp2_with (refine wpList_load_job rfl _ rfl w.heap.size rfl cs HX1.out HL.out ?_;simp only [Act.put,List.setIfInBounds_toArray,List.set_cons_succ,List.set_cons_zero])
 refine (HA.out _ HB1.out).mono ?_
 rintro e w2 ⟨a,k,rfl,hb⟩
 have U:=up_alloc (Below.refl w2.heap.size w2) (.cells #[.int .i64 sc,.int .i64 sr,.slice a sm k] 26)
 have HX2:=Lib.hid ((HX1.out.later (by rw [HL.out];decide) hb).later (by rw [HL.out];decide) U)
 have R2:=(HR1.out.up hb).up U
 have B2:=up_trans (up_trans HB1.out hb) U
 have HB2:=Lib.hid B2
 have HR2:=Lib.hid R2
 clear hb U
 have fin:∀ w3,Below (w2.alloc (.cells #[.int .i64 sc,.int .i64 sr,.slice a sm k] 26)).heap.size (w2.alloc (.cells #[.int .i64 sc,.int .i64 sr,.slice a sm k] 26)) w3→Bx w3 (w.heap.size+1) [.int .i64 0,.int .i64 0,.int .i64 0,.int .i64 0,.int .i64 0,.int .i64 0]∧Below w.heap.size w w3:=fun w3 hb=>⟨R2.up hb,up_trans B2 hb⟩
 have HF:=Lib.hid fin
 clear fin R2 B2
 cases f
 ·have R3:=HR2.out
  have r0:=R3.cell 0 rfl;have r1:=R3.cell 1 rfl;have r2:=R3.cell 2 rfl;have r3:=R3.cell 3 rfl;have r4:=R3.cell 4 rfl;have r5:=R3.cell 5 rfl
  have rf:=R3.free
  have R4:=(((((R3.set 0 (.int .i64 0)).set 1 (.int .i64 0)).set 2 (.int .i64 0)).set 3 (.int .i64 0)).set 4 (.int .i64 0)).set 5 (.int .i64 0)
  have B3:=up_set (up_set (up_set (up_set (up_set (up_set HB2.out (p:=⟨w.heap.size+1,0,none⟩) (by simp only;omega) (.int .i64 0)) (p:=⟨w.heap.size+1,1,none⟩) (by simp only;omega) (.int .i64 0)) (p:=⟨w.heap.size+1,2,none⟩) (by simp only;omega) (.int .i64 0)) (p:=⟨w.heap.size+1,3,none⟩) (by simp only;omega) (.int .i64 0)) (p:=⟨w.heap.size+1,4,none⟩) (by simp only;omega) (.int .i64 0)) (p:=⟨w.heap.size+1,5,none⟩) (by simp only;omega) (.int .i64 0)
  have H4:=Lib.hid R4;have HB3:=Lib.hid B3
  clear R3 R4 B3
  go_wp2
  exact bodyPost_ret (v:=.agg #[.int .i64 0,.int .i64 0,.int .i64 0,.int .i64 0,.int .i64 0,.int .i64 0]) (by simp [results,Tryz.results53,go_sem,H4.out.cell 0 rfl,H4.out.cell 1 rfl,H4.out.cell 2 rfl,H4.out.cell 3 rfl,H4.out.cell 4 rfl,H4.out.cell 5 rfl]) rfl ⟨rfl,HB3.out⟩
 ·obtain rfl:V=false:=by simpa using h
  go_wp2_with (refine wpList_load_job_want _ rfl rfl w.heap.size rfl cs HX2.out HL.out ?_;simp only [Act.put,List.setIfInBounds_toArray,List.set_cons_succ,List.set_cons_zero])
  refine (HK.out (by trivial) _ HB2.out).mono ?_
  rintro e w3 ⟨rfl,hb⟩
  obtain ⟨R3,B3⟩:=HF.out _ hb
  have HB3:=Lib.hid B3
  clear hb B3
  have r0:=R3.cell 0 rfl;have r1:=R3.cell 1 rfl;have r2:=R3.cell 2 rfl;have r3:=R3.cell 3 rfl;have r4:=R3.cell 4 rfl;have r5:=R3.cell 5 rfl
  have rf:=R3.free
  have R4:=(((((R3.set 0 (.int .i64 0)).set 1 (.int .i64 0)).set 2 (.int .i64 0)).set 3 (.int .i64 0)).set 4 (.int .i64 0)).set 5 (.int .i64 0)
  have B4:=up_set (up_set (up_set (up_set (up_set (up_set HB3.out (p:=⟨w.heap.size+1,0,none⟩) (by simp only;omega) (.int .i64 0)) (p:=⟨w.heap.size+1,1,none⟩) (by simp only;omega) (.int .i64 0)) (p:=⟨w.heap.size+1,2,none⟩) (by simp only;omega) (.int .i64 0)) (p:=⟨w.heap.size+1,3,none⟩) (by simp only;omega) (.int .i64 0)) (p:=⟨w.heap.size+1,4,none⟩) (by simp only;omega) (.int .i64 0)) (p:=⟨w.heap.size+1,5,none⟩) (by simp only;omega) (.int .i64 0)
  have H4:=Lib.hid R4;have HB4:=Lib.hid B4
  clear R3 R4 B4
  go_wp2
  exact bodyPost_ret (v:=.agg #[.int .i64 0,.int .i64 0,.int .i64 0,.int .i64 0,.int .i64 0,.int .i64 0]) (by simp [results,Tryz.results53,go_sem,H4.out.cell 0 rfl,H4.out.cell 1 rfl,H4.out.cell 2 rfl,H4.out.cell 3 rfl,H4.out.cell 4 rfl,H4.out.cell 5 rfl]) rfl ⟨rfl,HB4.out⟩
set_option maxRecDepth 100000 in
set_option maxHeartbeats 1000000 in
theorem ordBound_yes (cs:List Value) (b cp n m T e d c r sc sr:Int) (a:Option Addr) (fn fk sm:Nat) (w:World) (h11:cs[11]?=some (.int .i64 b)) (h12:cs[12]?=some (.int .i64 c)) (h13:cs[13]?=some (.int .i64 r)) (h14:cs[14]?=some (.slice a fn fk)) (hL:cs.length=33) (n1:0≤n) (n2:n≤100000) (hm:n-1=m)
  (KC:∀ w1,Below w.heap.size w w1→Calls Tryz.prog 69 #[.agg cs.toArray] w1 fun e w'=>e=.returned (.int .i64 n)∧Below w1.heap.size w1 w')
  (KA:∀ w1,Below w.heap.size w w1→Calls Tryz.prog 70 #[.agg cs.toArray,.int .i64 m] w1 fun e w'=>∃ a k,e=.returned (.tuple #[.agg #[.int .i64 sc,.int .i64 sr,.slice a sm k],.bool true])∧Below w1.heap.size w1 w')
  (KB:∀ w1,Below w.heap.size w w1→Calls Tryz.prog 71 #[.agg cs.toArray] w1 fun e w'=>e=.returned (.bool true)∧Below w1.heap.size w1 w')
  (KN:∀ w1,Calls Tryz.prog 72 #[.int .i64 b] w1 fun e w'=>e=.returned (.int .i64 cp)∧Below w1.heap.size w1 w')
  (KL:∀ w1,Below w.heap.size w w1→Calls Tryz.prog 14 #[.agg cs.toArray] w1 fun e w'=>e=.returned (.int .i64 T)∧Below w1.heap.size w1 w')
  (KF:∀ w1,Calls Tryz.prog 47 #[.agg #[.int .i64 c,.int .i64 r,.slice a fn fk]] w1 fun x w'=>x=.returned (.int .i64 e)∧Below w1.heap.size w1 w')
  (KE:∀ a k w1,Calls Tryz.prog 47 #[.agg #[.int .i64 sc,.int .i64 sr,.slice a sm k]] w1 fun e w'=>e=.returned (.int .i64 d)∧Below w1.heap.size w1 w') :
  Calls Tryz.prog 53 #[.agg cs.toArray] w fun x w'=>x=.returned (.agg #[.int .i64 b,.int .i64 cp,.int .i64 n,.int .i64 T,.int .i64 e,.int .i64 d])∧Below w.heap.size w w':=by
 have X1:=(Bx.new w 29 cs)
 have U1:=up_alloc (Below.refl w.heap.size w) (.cells cs.toArray 29)
 have V1:=up_alloc (Below.refl _ (w.alloc (.cells cs.toArray 29))) (.cells #[.int .i64 0,.int .i64 0,.int .i64 0,.int .i64 0,.int .i64 0,.int .i64 0] 82)
 have HX:=Lib.hid (X1.later (by rw [hL];decide) V1)
 have HB:=Lib.hid (up_trans U1 V1)
 have R1:=Bx.new (w.alloc (.cells cs.toArray 29)) 82 [.int .i64 0,.int .i64 0,.int .i64 0,.int .i64 0,.int .i64 0,.int .i64 0]
 rw [World.size_alloc] at R1
 have HR:=Lib.hid R1
 have HL:=Lib.hid hL;have HC:=Lib.hid KC;have HA:=Lib.hid KA;have HK:=Lib.hid KB;have HN:=Lib.hid KN;have HT:=Lib.hid KL;have HF:=Lib.hid KF;have HE:=Lib.hid KE
 have H11:=Lib.hid h11;have H12:=Lib.hid h12;have H13:=Lib.hid h13;have H14:=Lib.hid h14
 clear X1 U1 V1 R1 hL KC KA KB KN KL KF KE h11 h12 h13 h14
 go_enter Tryz.func53,Tryz.ntmps53
 go_wp2_with (refine wpList_load_job rfl _ rfl w.heap.size rfl cs HX.out HL.out ?_;simp only [Act.put,List.setIfInBounds_toArray,List.set_cons_succ,List.set_cons_zero])
 refine (HC.out _ HB.out).mono ?_
 rintro x w1 ⟨rfl,hb⟩
 have HX1:=Lib.hid (HX.out.later (by rw [HL.out];decide) hb)
 have HR1:=Lib.hid (HR.out.up hb)
 have HB1:=Lib.hid (up_trans HB.out hb)
 clear hb
 go_wp2_with (refine wpList_load_job rfl _ rfl w.heap.size rfl cs HX1.out HL.out ?_;simp only [Act.put,List.setIfInBounds_toArray,List.set_cons_succ,List.set_cons_zero])
 refine (HA.out _ HB1.out).mono ?_
 rintro x w2 ⟨a2,k2,rfl,hb⟩
 have U:=up_alloc (Below.refl w2.heap.size w2) (.cells #[.int .i64 sc,.int .i64 sr,.slice a2 sm k2] 26)
 have S2:=Lib.hid (Bx.new w2 26 [.int .i64 sc,.int .i64 sr,.slice a2 sm k2])
 have HX2:=Lib.hid ((HX1.out.later (by rw [HL.out];decide) hb).later (by rw [HL.out];decide) U)
 have HR2:=Lib.hid ((HR1.out.up hb).up U)
 have HB2:=Lib.hid (up_trans (up_trans HB1.out hb) U)
 have hlow:w.heap.size+1<w2.heap.size:=by have:=(HR1.out.up hb).lt;exact this
 clear hb U
 go_wp2_with (refine wpList_load_job_want _ rfl rfl w.heap.size rfl cs HX2.out HL.out ?_;simp only [Act.put,List.setIfInBounds_toArray,List.set_cons_succ,List.set_cons_zero])
 refine (HK.out _ HB2.out).mono ?_
 rintro x w3 ⟨rfl,hb⟩
 have X3:=Lib.hid (HX2.out.later (by rw [HL.out];decide) hb)
 have R3:=Lib.hid (HR2.out.up hb)
 have S3:=Lib.hid (S2.out.up hb)
 have B3:=Lib.hid (up_trans HB2.out hb)
 clear hb
 have b11:=X3.out.cell 11 H11.out;have b12:=X3.out.cell 12 H12.out;have b13:=X3.out.cell 13 H13.out;have b14:=X3.out.cell 14 H14.out
 have s0:=S3.out.cell 0 rfl;have s1:=S3.out.cell 1 rfl;have s2:=S3.out.cell 2 rfl
 have n1:w.heap.size≠w.heap.size+1:=by omega
 have n2:w2.heap.size≠w.heap.size+1:=by omega
 have j11:=fun x:HeldB (w.heap.size+1) w3=>x.cell n1 b11
 have j12:=fun x:HeldB (w.heap.size+1) w3=>x.cell n1 b12
 have j13:=fun x:HeldB (w.heap.size+1) w3=>x.cell n1 b13
 have j14:=fun x:HeldB (w.heap.size+1) w3=>x.cell n1 b14
 have k0:=fun x:HeldB (w.heap.size+1) w3=>x.cell n2 s0
 have k1:=fun x:HeldB (w.heap.size+1) w3=>x.cell n2 s1
 have k2:=fun x:HeldB (w.heap.size+1) w3=>x.cell n2 s2
 have HRG:=Lib.hid (heldB_range n1 X3.out)
 clear b11 b12 b13 b14 s0 s1 s2
 go_wp2_with fail
 refine wp_region_callsS (fun w'=>∃ u:HeldB (w.heap.size+1) w3,w'=u.now) [([0,1,2,3,5,6,8,9,11],4),([],7),([],10),([],12),([13],14)] [] (by kernel_rfl) (by kernel_rfl) rfl (fun _ _ d _ _ h=>by cases d<;>exact h) (heldB_drew _ _) ?_
 refine walkC_take _ rfl (fun K0 hK0=>?_)
 simp only [List.map_cons,List.map_nil,List.getD_cons_zero,List.getD_cons_succ]
 repeat (first
  | (go_big_quiet_want;refine quiet_load_job _ rfl w.heap.size rfl cs HL.out HRG.out ?_;simp only [Act.put,List.setIfInBounds_toArray,List.set_cons_succ,List.set_cons_zero];go_big_quiet_on)
  | go_big_quiet_step (fail))
 refine wpQuiet_nil (hK0.out _ (fun K hK=>?_))
 go_simp
 refine (HN.out _).mono ?_
 rintro x w4 ⟨rfl,hb⟩
 have C4:=Lib.hid (up_trans (up_drew (Below.refl _ w3)) hb)
 refine hK.out _ _ (heldB_up C4.out) ?_
 clear hK K hK0 K0 hb
 try simp only [List.setIfInBounds_toArray,List.set_cons_zero,List.set_cons_succ]
 refine walkC_take _ rfl (fun K0 hK0=>?_)
 simp only [List.map_nil,List.getD_cons_zero,List.getD_cons_succ]
 refine wpQuiet_nil (hK0.out _ (fun K hK=>?_))
 go_simp
 refine (HT.out _ (up_trans B3.out C4.out)).mono ?_
 rintro x w5 ⟨rfl,hb⟩
 have C5:=Lib.hid (up_trans C4.out hb)
 refine hK.out _ _ (heldB_up C5.out) ?_
 clear hK K hK0 K0 hb
 try simp only [List.setIfInBounds_toArray,List.set_cons_zero,List.set_cons_succ]
 refine walkC_take _ rfl (fun K0 hK0=>?_)
 simp only [List.map_nil,List.getD_cons_zero,List.getD_cons_succ]
 refine wpQuiet_nil (hK0.out _ (fun K hK=>?_))
 go_simp
 refine (HF.out _).mono ?_
 rintro x w6 ⟨rfl,hb⟩
 have C6:=Lib.hid (up_trans C5.out hb)
 refine hK.out _ _ (heldB_up C6.out) ?_
 clear hK K hK0 K0 hb
 try simp only [List.setIfInBounds_toArray,List.set_cons_zero,List.set_cons_succ]
 refine walkC_take _ rfl (fun K0 hK0=>?_)
 simp only [List.map_nil,List.getD_cons_zero,List.getD_cons_succ]
 refine wpQuiet_nil (hK0.out _ (fun K hK=>?_))
 go_simp
 refine (HE.out _ _ _).mono ?_
 rintro x w7 ⟨rfl,hb⟩
 have C7:=Lib.hid (up_trans C6.out hb)
 refine hK.out _ _ (heldB_up C7.out) ?_
 clear hK K hK0 K0 hb
 try simp only [List.setIfInBounds_toArray,List.set_cons_zero,List.set_cons_succ]
 refine walkC_take _ rfl (fun K0 hK0=>?_)
 simp only [List.map_cons,List.map_nil,List.getD_cons_zero,List.getD_cons_succ]
 repeat (go_big_quiet_step (fail))
 refine wpQuiet_nil (hK0.out _ (fun K hK=>?_))
 refine (if_pos (by kernel_rfl)).mpr ?_
 refine wp_store_mid 82 _ _ rfl (w.heap.size+1) 0 #[.int .i64 b,.int .i64 cp,.int .i64 n,.int .i64 T,.int .i64 e,.int .i64 d] rfl rfl ?there zero_book (by simp;exact ⟨rfl,rfl,rfl,rfl,rfl,rfl⟩) ?_
 case there=>exact (R3.out.up C7.out).present
 have C8:=heldB_sets (R:=w.heap.size+1) C7.out 0 [.int .i64 b,.int .i64 cp,.int .i64 n,.int .i64 T,.int .i64 e,.int .i64 d]
 refine hK.out _ _ C8 ?_
 clear hK K hK0 K0 C8
 try simp only [List.setIfInBounds_toArray,List.set_cons_zero,List.set_cons_succ]
 refine walkC_last (fun K0 hK0=>?_)
 simp only [List.map_nil]
 refine wpQuiet_nil (hK0.out _ ?_)
 clear hK0 K0
 have R8:=(R3.out.up C7.out).sets (ws:=[.int .i64 b,.int .i64 cp,.int .i64 n,.int .i64 T,.int .i64 e,.int .i64 d]) rfl
 have B8:=below_setCells (B:=w.heap.size+1) (show w.heap.size≤w.heap.size+1 by omega) [.int .i64 b,.int .i64 cp,.int .i64 n,.int .i64 T,.int .i64 e,.int .i64 d] 0 _ (up_trans B3.out C7.out)
 have HR8:=Lib.hid R8;have HB8:=Lib.hid B8
 clear R8 B8
 go_wp2
 exact bodyPost_ret (v:=.agg #[.int .i64 b,.int .i64 cp,.int .i64 n,.int .i64 T,.int .i64 e,.int .i64 d]) (results_wide Tryz.results53 (w.heap.size+1) rfl _ _ HR8.out.range Tryz.underlying82 rfl zero_book) rfl ⟨rfl,HB8.out⟩
theorem may_if (j:Jb):mayM j=((atS j (cntS j-1)).isSome&&(if j.n 10=1 then nestS j.f else inB (j.n 10) 1 4)):=by
 have hc:=of_length j
 have e1:(atS j (cntS j-1)).isSome=decide (0<(ofM j).length):=by
  unfold atS
  by_cases h:0<(ofM j).length
  ·rw [if_pos (by simp;omega)]
   simp [h]
  ·rw [if_neg (by simp;omega)]
   simp [h]
 rw [e1]
 unfold mayM inB
 by_cases hb:j.n 10=1
 ·simp [hb]
 ·simp [hb,Bool.and_comm]
theorem ordBound_any (cs:List Value) (j:Jb) (w:World) (h:JobA w cs j) (hf:WfF j) (hg:GoodM w) :
  Calls Tryz.prog 53 #[.agg cs.toArray] w fun x w'=>x=.returned (.agg #[.int .i64 (bkJ j).b,.int .i64 (bkJ j).cp,.int .i64 (bkJ j).n,.int .i64 (bkJ j).T,.int .i64 (bkJ j).e,.int .i64 (bkJ j).d])∧Below w.heap.size w w':=by
 obtain ⟨a,c,a',c',h12,h13,h14,h15,hI,hT⟩:=h.cells
 have h11:cs[11]?=some (.int .i64 (j.n 10)):=h.num (k:=10) (by decide)
 obtain ⟨n1,n2⟩:=cnt_bounds j
 have KC:=fun w1 (hb:Below w.heap.size w w1)=>spCount_any cs j w1 (h.up hb) hf (hg.below hb)
 have KA:=fun w1 (hb:Below w.heap.size w w1)=>(spAt_any cs j (cntS j-1) w1 (h.up hb) hf (hg.below hb)).mono fun (e:Ending) w' ⟨a,k,he,_,hb⟩=>(⟨a,k,he,hb⟩:∃ a k,e=Ending.returned (.tuple #[.agg #[.int .i64 ((atS j (cntS j-1)).getD zeroSc).c,.int .i64 ((atS j (cntS j-1)).getD zeroSc).r,.slice a ((atS j (cntS j-1)).getD zeroSc).l.length k],.bool (atS j (cntS j-1)).isSome])∧Below w1.heap.size w1 w')
 have hmay:=may_if j
 have hp0:(atS j (cntS j-1)).isSome=true→partB j=true:=fun h0=>by
  rw [←Bool.not_eq_false]
  intro hp
  have:cntS j=0:=by unfold cntS;rw [if_neg (by rw [hp];simp)]
  unfold atS at h0
  rw [if_neg (by simp;omega)] at h0
  cases h0
 have KB:=fun (h0:(atS j (cntS j-1)).isSome=true) w1 (hb:Below w.heap.size w w1)=>ordBinds_any cs j w1 (h.up hb) hf (by have:=(part_facts (hp0 h0)).2.1;omega)
 by_cases hm:mayM j=true
 ·have hm2:=hm
  rw [hmay,Bool.and_eq_true] at hm2
  have KB2:=KB hm2.1
  simp only [hm2.2] at KB2
  have e0:atS j (cntS j-1)=some (lastS j):=by
   unfold atS
   have h0:=hm2.1
   unfold atS at h0
   split at h0
   next hh =>
    rw [if_pos hh]
    unfold sigS partE
    rw [if_pos (by simp),if_pos (hp0 hm2.1)]
   next=>cases h0
  simp only [e0,Option.getD_some,Option.isSome_some] at KA
  have e1:bkJ j=⟨j.n 10,copM j,cntS j,leavesS j,panS j.f,panS (lastS j)⟩:=by unfold bkJ;rw [if_pos hm]
  rw [e1]
  refine ordBound_yes cs (j.n 10) (copM j) (cntS j) _ (leavesS j) (panS j.f) (panS (lastS j)) j.f.c j.f.r (lastS j).c (lastS j).r a j.f.l.length c (lastS j).l.length w h11 h12 h13 h14 h.length n1 (by omega) rfl KC KA KB2 (fun w1=>?_) (fun w1 hb=>spLeaves_any cs j w1 (h.up hb) hf (hg.below hb)) (fun w1=>schPanels_any _ _ _ _ _ w1) (fun a k w1=>schPanels_any _ _ _ _ _ w1)
  rw [copM_ways hm]
  exact ordNum_any _ w1
 ·have e1:bkJ j=⟨0,0,0,0,0,0⟩:=by unfold bkJ;rw [if_neg hm]
  rw [e1]
  exact ordBound_no cs (cntS j) _ _ _ _ _ _ w h.length n1 (by omega) rfl (by rw [←hmay];simpa using hm) KC KA KB
theorem bk_small (j:Jb):(0≤(bkJ j).cp∧(bkJ j).cp≤2)∧(0≤(bkJ j).n∧(bkJ j).n≤50000)∧(0≤(bkJ j).T∧(bkJ j).T≤3200000)∧(0≤(bkJ j).e∧(bkJ j).e≤64)∧(0≤(bkJ j).d∧(bkJ j).d≤64):=by
 by_cases h:mayM j=true
 ·obtain ⟨e,h0,h1,h2,h3,h4,h5⟩:=bk_facts h
  have hl:=leafN_small j (ofM j).length
  rw [e,copM_ways h]
  simp only
  refine ⟨by split<;>omega,by omega,by omega,by omega,by omega⟩
 ·have e:bkJ j=⟨0,0,0,0,0,0⟩:=by unfold bkJ;rw [if_neg h]
  rw [e]
  decide
theorem bk_cp (j:Jb):(bkJ j).cp=copM j:=by
 unfold bkJ
 split
 ·rfl
 next h=>unfold copM;rw [if_neg h]
theorem bk_smBk {j:Jb} (h:mayM j=true):SmBk (bkJ j).n (bkJ j).T (bkJ j).e (bkJ j).d:=by
 obtain ⟨s1,s2,s3,s4,s5⟩:=bk_small j
 obtain ⟨e,h0,h1,h2,h3,h4,h5⟩:=bk_facts h
 exact ⟨by rw [e];simp only;omega,s2.2,s3.1,by omega,by rw [e];simp only;omega,s4.2,s5.1,s5.2⟩
set_option maxRecDepth 100000 in
set_option maxHeartbeats 1000000 in
theorem ordWhere_core (cs:List Value) (b cp n T e d c x P A v:Int) (u1 u2:Bool) (w:World) (hL:cs.length=33)
  (KB:∀ w1,Below w.heap.size w w1→Calls Tryz.prog 53 #[.agg cs.toArray] w1 fun x w'=>x=.returned (.agg #[.int .i64 b,.int .i64 cp,.int .i64 n,.int .i64 T,.int .i64 e,.int .i64 d])∧Below w1.heap.size w1 w')
  (K1:∀ w1,Calls Tryz.prog 54 #[.int .i64 cp,.int .i64 c] w1 fun x w'=>x=.returned (.bool u1)∧w1=w')
  (K2:∀ w1,Calls Tryz.prog 54 #[.int .i64 T,.int .i64 x] w1 fun x w'=>x=.returned (.bool u2)∧w1=w')
  (KW:u1=true→u2=true→∀ w1,Calls Tryz.prog 55 #[.agg #[.int .i64 b,.int .i64 cp,.int .i64 n,.int .i64 T,.int .i64 e,.int .i64 d],.int .i64 x] w1 fun y w'=>y=.returned (.tuple #[.int .i64 P,.int .i64 A])∧Below w1.heap.size w1 w')
  (KG:u1=true→u2=true→∀ w1,Calls Tryz.prog 56 #[.agg #[.int .i64 b,.int .i64 cp,.int .i64 n,.int .i64 T,.int .i64 e,.int .i64 d],.int .i64 P,.int .i64 c] w1 fun x w'=>x=.returned (.int .i64 v)∧Below w1.heap.size w1 w') :
  Calls Tryz.prog 34 #[.agg cs.toArray,.int .i64 c,.int .i64 x] w fun y w'=>y=.returned (.tuple #[.int .i64 (if (u1&&u2)=true then v else 0),.int .i64 (if (u1&&u2)=true then A else 0),.bool (u1&&u2)])∧Below w.heap.size w w':=by
 have HX:=Lib.hid (Bx.new w 29 cs)
 have HB:=Lib.hid (up_alloc (Below.refl w.heap.size w) (.cells cs.toArray 29))
 have HL:=Lib.hid hL;have HK:=Lib.hid KB;have H1:=Lib.hid K1;have H2:=Lib.hid K2;have HG:=Lib.hid KG;have HW:=Lib.hid KW
 clear hL KB K1 K2 KG KW
 go_enter Tryz.func34,Tryz.ntmps34
 go_wp2_with (refine wpList_load_job rfl _ rfl w.heap.size rfl cs HX.out HL.out ?_;simp only [Act.put,List.setIfInBounds_toArray,List.set_cons_succ,List.set_cons_zero])
 refine (HK.out _ HB.out).mono ?_
 rintro y w1 ⟨rfl,hb⟩
 have S:=Bx.new w1 82 [.int .i64 b,.int .i64 cp,.int .i64 n,.int .i64 T,.int .i64 e,.int .i64 d]
 have U:=up_alloc (Below.refl w1.heap.size w1) (.cells #[.int .i64 b,.int .i64 cp,.int .i64 n,.int .i64 T,.int .i64 e,.int .i64 d] 82)
 have B1:=Lib.hid (up_trans (up_trans HB.out hb) U)
 have s0:=S.cell 0 rfl;have s1:=S.cell 1 rfl;have s2:=S.cell 2 rfl;have s3:=S.cell 3 rfl;have s4:=S.cell 4 rfl;have s5:=S.cell 5 rfl
 clear hb U S
 go_wp2_with fail
 refine (H1.out _).mono ?_
 rintro y w2 ⟨rfl,rfl⟩
 obtain ⟨w2,hw2⟩:∃ w2,w1.alloc (.cells #[.int .i64 b,.int .i64 cp,.int .i64 n,.int .i64 T,.int .i64 e,.int .i64 d] 82)=w2:=⟨_,rfl⟩
 rw [hw2] at s0 s1 s2 s3 s4 s5 B1 ⊢
 clear hw2
 cases u1
 ·clear H2 HW HG
  go_wp2
  exact bodyPost_ret (v:=.tuple #[.int .i64 0,.int .i64 0,.bool false]) (by simp [results,Tryz.results34,go_sem]) rfl ⟨rfl,B1.out⟩
 go_wp2_with fail
 refine (H2.out _).mono ?_
 rintro y w3 ⟨rfl,rfl⟩
 cases u2
 ·clear HW HG
  go_wp2
  exact bodyPost_ret (v:=.tuple #[.int .i64 0,.int .i64 0,.bool false]) (by simp [results,Tryz.results34,go_sem]) rfl ⟨rfl,B1.out⟩
 have KG:=HG.out (by trivial) (by trivial)
 have KW:=HW.out (by trivial) (by trivial)
 have HG2:=Lib.hid KG;have HW2:=Lib.hid KW
 clear KG KW HG HW
 go_wp2_with fail
 refine (HW2.out _).mono ?_
 rintro y w3 ⟨rfl,hb⟩
 have B3:=Lib.hid (up_trans B1.out hb)
 have g0:=bl_cell hb s0;have g1:=bl_cell hb s1;have g2:=bl_cell hb s2;have g3:=bl_cell hb s3;have g4:=bl_cell hb s4;have g5:=bl_cell hb s5
 clear hb s0 s1 s2 s3 s4 s5
 go_wp2_with fail
 refine (HG2.out _).mono ?_
 rintro y w4 ⟨rfl,hb⟩
 have B4:=Lib.hid (up_trans B3.out hb)
 clear hb g0 g1 g2 g3 g4 g5
 go_wp2
 exact bodyPost_ret (v:=.tuple #[.int .i64 v,.int .i64 A,.bool true]) (by simp [results,Tryz.results34,go_sem]) rfl ⟨rfl,B4.out⟩
theorem at_guards (j:Jb) (c x:Int):((decide (0≤c)&&decide (c≤(bkJ j).cp-1))&&(decide (0≤x)&&decide (x≤(bkJ j).T-1)))=(atO j c x).isSome:=by
 rw [bk_cp]
 by_cases hno:c<0∨copM j≤c
 ·have e1:atO j c x=none:=by
   unfold atO
   rw [bookM_none hno]
   split<;>simp
  rw [e1,Bool.eq_iff_iff]
  simp
  omega
 ·obtain ⟨hm,-⟩:=cop_may hno
  obtain ⟨e,-⟩:=bk_facts hm
  have ht:(bkJ j).T=(bookM j c).length:=by rw [bookM_length hno,e]
  unfold atO
  by_cases hx:x<0
  ·rw [if_pos hx,Bool.eq_iff_iff]
   simp
   omega
  ·rw [if_neg hx,Bool.eq_iff_iff]
   simp
   omega
theorem ordWhere:OrdWhere:=fun cs j c x w h hf hg ic ix=>by
 obtain ⟨s1,s2,s3,s4,s5⟩:=bk_small j
 have facts:((decide (0≤c)&&decide (c≤(bkJ j).cp-1))=true)→((decide (0≤x)&&decide (x≤(bkJ j).T-1))=true)→∃ i a:Nat,atO j c x=some (i,a)∧mayM j=true∧i<(ofM j).length∧a<panN (ofM j) i∧bkPlace (bkJ j) (bkFrom (bkJ j) x).1 c=i∧(bkFrom (bkJ j) x).2=a:=fun g1 g2=>by
  have hs:(atO j c x).isSome=true:=by rw [←at_guards,g1,g2];rfl
  rw [bk_cp] at g1
  simp only [Bool.and_eq_true,decide_eq_true_eq] at g1 g2
  have hno:¬ (c<0∨copM j≤c):=by omega
  obtain ⟨hm,-⟩:=cop_may hno
  obtain ⟨y,rfl⟩:=Int.eq_ofNat_of_zero_le g2.1
  have e1:atO j c y=(bookM j c)[y]?:=by
   unfold atO
   rw [if_neg (by omega),Int.toNat_natCast]
  rw [e1] at hs ⊢
  have hlt:y<(bookM j c).length:=by simpa using hs
  obtain ⟨i,a,hi,ha,hp,hat⟩:=book_each hlt
  have:=bk_from hno hi ha
  rw [hp] at this
  exact ⟨i,a,hat,hm,hi,ha,this⟩
 have K:=ordWhere_core cs (bkJ j).b (bkJ j).cp (bkJ j).n (bkJ j).T (bkJ j).e (bkJ j).d c x (bkFrom (bkJ j) x).1 (bkFrom (bkJ j) x).2 (bkPlace (bkJ j) (bkFrom (bkJ j) x).1 c) _ _ w h.length
  (fun w1 hb=>ordBound_any cs j w1 (h.up hb) hf (hg.below hb)) (fun w1=>ordHas_any _ c w1 s1.1 (by omega)) (fun w1=>ordHas_any _ x w1 s3.1 (by omega)) (fun g1 g2 w1=>?_) (fun g1 g2 w1=>?_)
 ·rw [at_guards] at K
  cases hs:(atO j c x).isSome with
  | false =>
   rw [hs] at K
   rw [Option.isSome_eq_false_iff,Option.isNone_iff_eq_none] at hs
   rw [hs]
   exact K
  | true =>
   rw [hs] at K
   rw [←at_guards,Bool.and_eq_true] at hs
   obtain ⟨i,a,e1,-,-,-,e2,e3⟩:=facts hs.1 hs.2
   rw [e1]
   simp only [e2,e3,if_true] at K
   exact K
 ·obtain ⟨i,a,-,hm,-⟩:=facts g1 g2
  simp only [Bool.and_eq_true,decide_eq_true_eq] at g2
  obtain ⟨e,h0,h1,h2,h3,h4,h5⟩:=bk_facts hm
  refine ordFromK_any _ _ _ _ _ _ x w1 (bk_smBk hm) (fun h1=>?_) g2.1 g2.2
  rw [e] at h1 ⊢
  have:=nest_half hm h1
  simp only
  omega
 ·obtain ⟨i,a,-,hm,hi,-,e2,-⟩:=facts g1 g2
  have hn:(bkJ j).n=(ofM j).length:=by rw [(bk_facts hm).1]
  have hp:-1000000000≤(bkFrom (bkJ j) x).1∧(bkFrom (bkJ j) x).1≤1000000000:=by
   unfold bkPlace at e2
   split at e2<;>omega
  exact ordPlace_any _ _ _ _ _ _ _ c w1 s2.1 (by omega) hp.1 hp.2
end Go.Proofs.YtbbjileignefbaaGreatDoor
namespace Go.Proofs.YtbbjileignefbaaGreatDoor
open Go.RowKit NumMath
theorem size_any (n:Int) (w:World) (h0:-9223372036854775808≤n) (h1:n≤9223372036854775807) :
  Calls Tryz.prog 38 #[.int .i64 n] w fun e w'=>e=.returned (.int .u64 (sz n))∧w=w':=by
 by_cases h:n<0
 ·have e:sz n=-n:=by simp [sz,h]
  have H:=Lib.hid e;clear e
  go_enter Tryz.func38,Tryz.ntmps38
  go_wp2
  go_ret
  exact ⟨ret_int (by rw [H.out];simp only [wrapu];omega),rfl⟩
 ·have e:sz n=n:=by simp [sz,h]
  have H:=Lib.hid e;clear e
  go_enter Tryz.func38,Tryz.ntmps38
  go_wp2
  go_ret
  exact ⟨ret_int H.out.symm,rfl⟩
theorem signed_any (m:Int) (below:Bool) (w:World) (h0:0≤m) (h1:m<18446744073709551616) :
  Calls Tryz.prog 40 #[.int .u64 m,.bool below] w fun e w'=>e=.returned (.tuple #[.int .i64 (sg m below).1,.bool (sg m below).2])∧w=w':=by
 cases below
 ·by_cases h:9223372036854775807<m
  ·have H:=Lib.hid (sg_plus_no m h)
   go_enter Tryz.func40,Tryz.ntmps40
   go_wp2
   go_ret2
   exact ⟨ret_pair H.out,rfl⟩
  ·have H:=Lib.hid (sg_plus m h0 (by omega))
   go_enter Tryz.func40,Tryz.ntmps40
   go_wp2
   go_ret2
   exact ⟨ret_pair H.out,rfl⟩
 ·by_cases h:9223372036854775808<m
  ·have H:=Lib.hid (sg_minus_no m h)
   go_enter Tryz.func40,Tryz.ntmps40
   go_wp2
   go_ret2
   exact ⟨ret_pair H.out,rfl⟩
  ·have H:=Lib.hid (sg_minus m h0 (by omega))
   go_enter Tryz.func40,Tryz.ntmps40
   go_wp2
   go_ret2
   exact ⟨ret_pair (pair_eq H.out (by simp only [wrapu,wrap64];omega)),rfl⟩
theorem mulN (x y:Nat):(x:Int)*(y:Int)=((x*y:Nat):Int):=(Int.natCast_mul x y).symm
theorem addN (x y:Nat):(x:Int)+(y:Int)=((x+y:Nat):Int):=(Int.natCast_add x y).symm
theorem divN (x:Nat):(x:Int) / 4294967296=((x / 4294967296:Nat):Int):=by omega
theorem wrapN (x:Nat) (h:x<18446744073709551616):IntKind.u64.wrap (x:Int)=(x:Int):=by rw [wrapu];omega
theorem wrapM (x:Nat):IntKind.u64.wrap (x:Int)=((x%18446744073709551616:Nat):Int):=by rw [wrapu];omega
theorem maskN (x:Nat) (h:x<18446744073709551616):bits .and .u64 (x:Int) 4294967295=((x%4294967296:Nat):Int):=by rw [and_low _ (by omega) (by omega)];omega
set_option maxHeartbeats 1000000 in
theorem mul64_nat (x y:Nat) (hx:x<18446744073709551616) (hy:y<18446744073709551616) (w:World) :
  Calls Tryz.prog 37 #[.int .u64 x,.int .u64 y] w fun e w'=>e=.returned (.tuple #[.int .u64 ((x*y / 18446744073709551616:Nat):Int),.int .u64 ((x*y%18446744073709551616:Nat):Int)])∧w=w':=by
 obtain ⟨bd,bt,bw,hhi⟩:=Lib.mul64_hi x y hx hy
 have ba:=Lib.half_mul_le (a:=x / 4294967296) (b:=y / 4294967296) (by omega) (by omega)
 have bb:=Lib.half_mul_le (a:=x / 4294967296) (b:=y%4294967296) (by omega) (by omega)
 have bc:=Lib.half_mul_le (a:=x%4294967296) (b:=y / 4294967296) (by omega) (by omega)
 have ba':x / 4294967296*(y / 4294967296)<18446744073709551616:=by omega
 have bb':x / 4294967296*(y%4294967296)<18446744073709551616:=by omega
 have bc':x%4294967296*(y / 4294967296)<18446744073709551616:=by omega
 have bh1:x / 4294967296*(y / 4294967296)+(x / 4294967296*(y%4294967296)+x%4294967296*(y%4294967296) / 4294967296) / 4294967296<18446744073709551616:=by omega
 have bh:x / 4294967296*(y / 4294967296)+(x / 4294967296*(y%4294967296)+x%4294967296*(y%4294967296) / 4294967296) / 4294967296+((x / 4294967296*(y%4294967296)+x%4294967296*(y%4294967296) / 4294967296)%4294967296+x%4294967296*(y / 4294967296)) / 4294967296<18446744073709551616:=by omega
 go_enter Tryz.func37,Tryz.ntmps37
 go_wp2
 simp only [maskN x hx,maskN y hy,divN,mulN,addN,wrapN _ bd,wrapN _ bb',wrapN _ bt,maskN _ bt,wrapN _ bc',wrapN _ bw,wrapN _ ba',wrapN _ bh1,wrapN _ bh,wrapM (x*y)]
 rw [hhi]
 go_ret2
 exact ⟨rfl,rfl⟩
theorem mul64_any (x y hi lo:Int) (w:World) (x0:0≤x) (x1:x<18446744073709551616) (y0:0≤y) (y1:y<18446744073709551616) (h1:hi=x*y / 18446744073709551616) (h2:lo=x*y%18446744073709551616) :
  Calls Tryz.prog 37 #[.int .u64 x,.int .u64 y] w fun e w'=>e=.returned (.tuple #[.int .u64 hi,.int .u64 lo])∧w=w':=by
 obtain ⟨x,rfl⟩:=Int.eq_ofNat_of_zero_le x0
 obtain ⟨y,rfl⟩:=Int.eq_ofNat_of_zero_le y0
 refine (mul64_nat x y (by omega) (by omega) w).mono ?_
 rintro e w' ⟨rfl,rfl⟩
 refine ⟨ret_ii ?_ ?_,rfl⟩
 ·rw [h1,mulN];omega
 ·rw [h2,mulN];omega
theorem len_end (k n m:Nat) (z:Int) (hk:k≤56) (z0:0≤z) (z1:z≤255) (e:z.toNat=m) (s:Lib.bitLen n=k+Lib.bitLen m) :
  wrap64 ((k:Int)+wrap64 (Lib.len8 z))=(Lib.bitLen n:Int):=by
 have l:=Lib.bitLen_le8' z z0 z1
 rw [Lib.len8_of z z0 z1,s,←e]
 generalize Lib.bitLen z.toNat=q at *
 unfold wrap64
 omega
set_option maxHeartbeats 1000000 in
set_option maxRecDepth 100000 in
theorem len64_0 (x:Int) (w:World) (x0:1≤x) (x1:x<256) :
  Calls Tryz.prog 74 #[.int .u64 x] w fun e w'=>e=.returned (.int .i64 (Lib.bitLen x.toNat))∧w=w':=by
 have s:Lib.bitLen x.toNat=0+Lib.bitLen x.toNat:=(Nat.zero_add _).symm
 have H:=Lib.hid (len_end 0 x.toNat x.toNat (x) (by decide) (by omega) (by omega) rfl s)
 clear s
 have hix:=fun w=>Lib.run_index_len8tab (P:=Tryz.prog) w 9 .u8 (x) Tryz.underlying9 (by omega) (by omega)
 go_enter Tryz.func74,Tryz.ntmps74
 go_wp2
 go_ret
 exact ⟨ret_int (by have:=H.out;simpa using this),rfl⟩
set_option maxHeartbeats 1000000 in
set_option maxRecDepth 100000 in
theorem len64_8 (x:Int) (w:World) (x0:256≤x) (x1:x<65536) :
  Calls Tryz.prog 74 #[.int .u64 x] w fun e w'=>e=.returned (.int .i64 (Lib.bitLen x.toNat))∧w=w':=by
 have s:Lib.bitLen x.toNat=8+Lib.bitLen (x.toNat / 256):=Lib.bitLen_shift8 x.toNat (by omega) (by omega)
 have H:=Lib.hid (len_end 8 x.toNat (x.toNat / 256) (x / 256) (by decide) (by omega) (by omega) (by omega) s)
 clear s
 have hix:=fun w=>Lib.run_index_len8tab (P:=Tryz.prog) w 9 .u8 (x / 256) Tryz.underlying9 (by omega) (by omega)
 go_enter Tryz.func74,Tryz.ntmps74
 go_wp2
 go_ret
 exact ⟨ret_int H.out,rfl⟩
set_option maxHeartbeats 1000000 in
set_option maxRecDepth 100000 in
theorem len64_16 (x:Int) (w:World) (x0:65536≤x) (x1:x<16777216) :
  Calls Tryz.prog 74 #[.int .u64 x] w fun e w'=>e=.returned (.int .i64 (Lib.bitLen x.toNat))∧w=w':=by
 have s:Lib.bitLen x.toNat=16+Lib.bitLen (x.toNat / 65536):=Lib.bitLen_shift16 x.toNat (by omega) (by omega)
 have H:=Lib.hid (len_end 16 x.toNat (x.toNat / 65536) (x / 65536) (by decide) (by omega) (by omega) (by omega) s)
 clear s
 have hix:=fun w=>Lib.run_index_len8tab (P:=Tryz.prog) w 9 .u8 (x / 65536) Tryz.underlying9 (by omega) (by omega)
 go_enter Tryz.func74,Tryz.ntmps74
 go_wp2
 go_ret
 exact ⟨ret_int H.out,rfl⟩
set_option maxHeartbeats 1000000 in
set_option maxRecDepth 100000 in
theorem len64_24 (x:Int) (w:World) (x0:16777216≤x) (x1:x<4294967296) :
  Calls Tryz.prog 74 #[.int .u64 x] w fun e w'=>e=.returned (.int .i64 (Lib.bitLen x.toNat))∧w=w':=by
 have s:Lib.bitLen x.toNat=24+Lib.bitLen (x.toNat / 16777216):=Lib.bitLen_shift24 x.toNat (by omega) (by omega)
 have H:=Lib.hid (len_end 24 x.toNat (x.toNat / 16777216) (x / 65536 / 256) (by decide) (by omega) (by omega) (by omega) s)
 clear s
 have hix:=fun w=>Lib.run_index_len8tab (P:=Tryz.prog) w 9 .u8 (x / 65536 / 256) Tryz.underlying9 (by omega) (by omega)
 go_enter Tryz.func74,Tryz.ntmps74
 go_wp2
 go_ret
 exact ⟨ret_int H.out,rfl⟩
set_option maxHeartbeats 1000000 in
set_option maxRecDepth 100000 in
theorem len64_32 (x:Int) (w:World) (x0:4294967296≤x) (x1:x<1099511627776) :
  Calls Tryz.prog 74 #[.int .u64 x] w fun e w'=>e=.returned (.int .i64 (Lib.bitLen x.toNat))∧w=w':=by
 have s:Lib.bitLen x.toNat=32+Lib.bitLen (x.toNat / 4294967296):=Lib.bitLen_shift32 x.toNat (by omega) (by omega)
 have H:=Lib.hid (len_end 32 x.toNat (x.toNat / 4294967296) (x / 4294967296) (by decide) (by omega) (by omega) (by omega) s)
 clear s
 have hix:=fun w=>Lib.run_index_len8tab (P:=Tryz.prog) w 9 .u8 (x / 4294967296) Tryz.underlying9 (by omega) (by omega)
 go_enter Tryz.func74,Tryz.ntmps74
 go_wp2
 go_ret
 exact ⟨ret_int H.out,rfl⟩
set_option maxHeartbeats 1000000 in
set_option maxRecDepth 100000 in
theorem len64_40 (x:Int) (w:World) (x0:1099511627776≤x) (x1:x<281474976710656) :
  Calls Tryz.prog 74 #[.int .u64 x] w fun e w'=>e=.returned (.int .i64 (Lib.bitLen x.toNat))∧w=w':=by
 have s:Lib.bitLen x.toNat=40+Lib.bitLen (x.toNat / 1099511627776):=Lib.bitLen_shift40 x.toNat (by omega) (by omega)
 have H:=Lib.hid (len_end 40 x.toNat (x.toNat / 1099511627776) (x / 4294967296 / 256) (by decide) (by omega) (by omega) (by omega) s)
 clear s
 have hix:=fun w=>Lib.run_index_len8tab (P:=Tryz.prog) w 9 .u8 (x / 4294967296 / 256) Tryz.underlying9 (by omega) (by omega)
 go_enter Tryz.func74,Tryz.ntmps74
 go_wp2
 go_ret
 exact ⟨ret_int H.out,rfl⟩
set_option maxHeartbeats 1000000 in
set_option maxRecDepth 100000 in
theorem len64_48 (x:Int) (w:World) (x0:281474976710656≤x) (x1:x<72057594037927936) :
  Calls Tryz.prog 74 #[.int .u64 x] w fun e w'=>e=.returned (.int .i64 (Lib.bitLen x.toNat))∧w=w':=by
 have s:Lib.bitLen x.toNat=48+Lib.bitLen (x.toNat / 281474976710656):=Lib.bitLen_shift48 x.toNat (by omega) (by omega)
 have H:=Lib.hid (len_end 48 x.toNat (x.toNat / 281474976710656) (x / 4294967296 / 65536) (by decide) (by omega) (by omega) (by omega) s)
 clear s
 have hix:=fun w=>Lib.run_index_len8tab (P:=Tryz.prog) w 9 .u8 (x / 4294967296 / 65536) Tryz.underlying9 (by omega) (by omega)
 go_enter Tryz.func74,Tryz.ntmps74
 go_wp2
 go_ret
 exact ⟨ret_int H.out,rfl⟩
set_option maxHeartbeats 1000000 in
set_option maxRecDepth 100000 in
theorem len64_56 (x:Int) (w:World) (x0:72057594037927936≤x) (x1:x<18446744073709551616) :
  Calls Tryz.prog 74 #[.int .u64 x] w fun e w'=>e=.returned (.int .i64 (Lib.bitLen x.toNat))∧w=w':=by
 have s:Lib.bitLen x.toNat=56+Lib.bitLen (x.toNat / 72057594037927936):=Lib.bitLen_shift56 x.toNat (by omega) (by omega)
 have H:=Lib.hid (len_end 56 x.toNat (x.toNat / 72057594037927936) (x / 4294967296 / 65536 / 256) (by decide) (by omega) (by omega) (by omega) s)
 clear s
 have hix:=fun w=>Lib.run_index_len8tab (P:=Tryz.prog) w 9 .u8 (x / 4294967296 / 65536 / 256) Tryz.underlying9 (by omega) (by omega)
 go_enter Tryz.func74,Tryz.ntmps74
 go_wp2
 go_ret
 exact ⟨ret_int H.out,rfl⟩
end Go.Proofs.YtbbjileignefbaaGreatDoor
namespace Go.Proofs.YtbbjileignefbaaGreatDoor.NumMath
def Gq (u v1 v0 d q r:Int):Prop:=q*v1=u-r∧0≤r∧r<4294967296∧0≤q∧q≤4294967297∧r*4294967296+d<q*v0+v1*4294967296+v0
section
variable (u v1 v0 d:Int) (a0:2147483648≤v1) (a1:v1<4294967296) (b0:0≤v0) (b1:v0<4294967296) (d0:0≤d) (d1:d<4294967296) (u0:0≤u) (u1:u<v1*4294967296+v0)
include a0 a1 b0 b1 d0 d1 u0 u1
theorem gs_start:Gq u v1 v0 d (u / v1) (u-u / v1*v1):=by
 have q0:0≤u / v1:=Int.ediv_nonneg u0 (by omega)
 have m:=Int.mul_ediv_add_emod u v1
 have m0:=Int.emod_nonneg u (by omega:v1≠0)
 have m1:=Int.emod_lt_of_pos u (by omega:0<v1)
 rw [Int.mul_comm] at m
 have s0:0≤u / v1*v0:=Int.mul_nonneg q0 b0
 have q1:u / v1≤4294967297:=by
  refine Int.not_lt.1 fun h=>?_
  have:=Int.mul_le_mul_of_nonneg_right (show (4294967298:Int)≤u / v1 by omega) (by omega:0≤v1)
  omega
 exact ⟨by omega,by omega,by omega,q0,q1,by omega⟩
variable (q r:Int) (h:Gq u v1 v0 d q r)
include h
theorem gs_end (t:q*v0≤r*4294967296+d):q=(u*4294967296+d) / (v1*4294967296+v0):=by
 obtain ⟨e,r0,r1,q0,q1,l⟩:=h
 have x:q*(v1*4294967296+v0)=(u-r)*4294967296+q*v0:=by rw [Int.mul_add,←Int.mul_assoc,e]
 refine (div_of (v1*4294967296+v0) (u*4294967296+d) q (u*4294967296+d-q*(v1*4294967296+v0)) (by omega) (by omega) (by omega)).symm
theorem gs_less (t:4294967296≤q∨r*4294967296+d<q*v0):r*4294967296+d<q*v0∧1≤q:=by
 obtain ⟨e,r0,r1,q0,q1,l⟩:=h
 have x:q*(v1*4294967296+v0)=(u-r)*4294967296+q*v0:=by rw [Int.mul_add,←Int.mul_assoc,e]
 have y:r*4294967296+d<q*v0:=by
  rcases t with t | t
  ·have:=Int.mul_le_mul_of_nonneg_right t (by omega:0≤v1*4294967296+v0)
   omega
  ·exact t
 refine ⟨y,?_⟩
 refine Int.not_lt.1 fun h=>?_
 obtain rfl:q=0:=by omega
 omega
theorem gs_more (t:r*4294967296+d<q*v0) (p:1≤q) (z:r+v1<4294967296):Gq u v1 v0 d (q-1) (r+v1):=by
 obtain ⟨e,r0,r1,q0,q1,l⟩:=h
 have x1:(q-1)*v1=q*v1-v1:=by rw [Int.sub_mul,Int.one_mul]
 have x2:(q-1)*v0=q*v0-v0:=by rw [Int.sub_mul,Int.one_mul]
 exact ⟨by omega,by omega,z,by omega,by omega,by omega⟩
theorem gs_break (t:r*4294967296+d<q*v0) (p:1≤q) (z:4294967296≤r+v1):q-1=(u*4294967296+d) / (v1*4294967296+v0):=by
 obtain ⟨e,r0,r1,q0,q1,l⟩:=h
 have x1:(q-1)*v1=q*v1-v1:=by rw [Int.sub_mul,Int.one_mul]
 have x2:(q-1)*v0=q*v0-v0:=by rw [Int.sub_mul,Int.one_mul]
 have x:(q-1)*(v1*4294967296+v0)=(u-r-v1)*4294967296+(q-1)*v0:=by rw [Int.mul_add,←Int.mul_assoc,x1,e]
 have y:(q-1)*v0≤4294967296*v0:=Int.mul_le_mul_of_nonneg_right (by omega) b0
 refine (div_of (v1*4294967296+v0) (u*4294967296+d) (q-1) (u*4294967296+d-(q-1)*(v1*4294967296+v0)) (by omega) (by omega) (by omega)).symm
end
theorem lead (y:Int) (y0:1≤y) (y1:y<18446744073709551616) :
  ∃ s:Nat,s≤63∧((Lib.bitLen y.toNat:Nat):Int)=64-s∧9223372036854775808≤y*2 ^ s∧y*2 ^ s<18446744073709551616:=by
 obtain ⟨n,rfl⟩:=Int.eq_ofNat_of_zero_le (by omega:0≤y)
 obtain ⟨a,b,c⟩:=Lib.bitLenAux_bounds 64 n (by omega) (by omega)
 have l:Lib.bitLenAux 64 n≤64:=Lib.bitLenAux_le 64 n 64 (by omega)
 rw [Int.toNat_natCast]
 unfold Lib.bitLen
 generalize Lib.bitLenAux 64 n=L at *
 have e3:(n:Int)*2 ^ (64-L)=((n*2 ^ (64-L):Nat):Int):=by rw [Int.natCast_mul,Int.natCast_pow];rfl
 refine ⟨64-L,by omega,by omega,?_,?_⟩
 ·have e:2 ^ (L-1)*2 ^ (64-L)=9223372036854775808:=by
   rw [←Nat.pow_add,show L-1+(64-L)=63 from by omega]
  have:=Nat.mul_le_mul_right (2 ^ (64-L)) b
  rw [e] at this
  rw [e3];omega
 ·have e:2 ^ L*2 ^ (64-L)=18446744073709551616:=by
   rw [←Nat.pow_add,show L+(64-L)=64 from by omega]
  have:=Nat.mul_lt_mul_of_pos_right c (Nat.two_pow_pos (64-L))
  rw [e] at this
  rw [e3];omega
theorem or_shift (x z:Int) (s:Nat) (x0:0≤x) (x1:x*2 ^ s<18446744073709551616) (z0:0≤z) (z1:z<2 ^ s) (s1:s≤63) :
  bits .or .u64 (IntKind.u64.wrap (x*2 ^ s)) z=x*2 ^ s+z:=by
 have p:(0:Int)<2 ^ s:=Int.pow_pos (by decide)
 have m:0≤x*2 ^ s:=Int.mul_nonneg x0 (Int.le_of_lt p)
 have p2:(2:Int) ^ s≤9223372036854775808:=by
  have:=Nat.pow_le_pow_right (n:=2) (by decide) s1
  have e:((2 ^ s:Nat):Int)=2 ^ s:=by rw [Int.natCast_pow];rfl
  rw [←e];omega
 rw [wrapu,show x*2 ^ s%18446744073709551616=x*2 ^ s from by omega]
 rw [u64_or _ _ m x1 z0 (by omega)]
 obtain ⟨n,rfl⟩:=Int.eq_ofNat_of_zero_le x0
 obtain ⟨k,rfl⟩:=Int.eq_ofNat_of_zero_le z0
 have e:(n:Int)*2 ^ s=((n*2 ^ s:Nat):Int):=by rw [Int.natCast_mul,Int.natCast_pow];rfl
 have e2:((2 ^ s:Nat):Int)=2 ^ s:=by rw [Int.natCast_pow];rfl
 rw [e,Int.toNat_natCast,Int.toNat_natCast,nat_join s _ _ (Nat.mul_mod_left _ _) (by omega)]
 omega
theorem prep (hi lo y:Int) (s:Nat) (h0:0≤hi) (h1:hi<y) (l0:0≤lo) (l1:lo<18446744073709551616) (s1:s≤63) (t0:9223372036854775808≤y*2 ^ s) (t1:y*2 ^ s<18446744073709551616) :
  ∃ v v1 v0 u t d1 d0:Int,y*2 ^ s=v∧v / 4294967296=v1∧bits .and .u64 v 4294967295=v0∧bits .or .u64 (IntKind.u64.wrap (hi*2 ^ s)) (lo / 2 ^ (64-s))=u∧IntKind.u64.wrap (lo*2 ^ s)=t∧t / 4294967296=d1∧bits .and .u64 t 4294967295=d0 ∧
   (2147483648≤v1∧v1<4294967296∧0≤v0∧v0<4294967296∧0≤d1∧d1<4294967296∧0≤d0∧d0<4294967296∧0≤u∧u<v1*4294967296+v0) ∧
   v=v1*4294967296+v0∧(hi*18446744073709551616+lo)*2 ^ s=(u*4294967296+d1)*4294967296+d0:=by
 have p:(0:Int)<2 ^ s:=Int.pow_pos (by decide)
 have p2:(0:Int)<2 ^ (64-s):=Int.pow_pos (by decide)
 have pm:(2:Int) ^ (64-s)*2 ^ s=18446744073709551616:=by rw [←Int.pow_add,show 64-s+s=64 from by omega];rfl
 have z0:0≤lo / 2 ^ (64-s):=Int.ediv_nonneg l0 (Int.le_of_lt p2)
 have z1:lo / 2 ^ (64-s)<2 ^ s:=by
  rw [Int.ediv_lt_iff_lt_mul p2,Int.mul_comm,pm];exact l1
 have c:lo*2 ^ s / 18446744073709551616=lo / 2 ^ (64-s):=by
  rw [←pm,Int.mul_ediv_mul_of_pos_left _ _ p]
 have x1:(hi+1)*2 ^ s≤y*2 ^ s:=Int.mul_le_mul_of_nonneg_right (by omega) (Int.le_of_lt p)
 rw [Int.add_mul,Int.one_mul] at x1
 have m0:0≤hi*2 ^ s:=Int.mul_nonneg h0 (Int.le_of_lt p)
 have e1:=or_shift hi (lo / 2 ^ (64-s)) s h0 (by omega) z0 z1 s1
 have e2:(hi*18446744073709551616+lo)*2 ^ s=hi*2 ^ s*18446744073709551616+lo*2 ^ s:=by rw [Int.add_mul,Int.mul_assoc,Int.mul_comm 18446744073709551616,←Int.mul_assoc]
 refine ⟨_,_,_,_,_,_,_,rfl,rfl,rfl,rfl,rfl,rfl,rfl,?_⟩
 rw [e1,wrapu,and_low _ (by omega) (by omega),and_low _ (by omega) (by omega),e2]
 generalize y*2 ^ s=Y at *
 generalize hi*2 ^ s=X at *
 generalize lo*2 ^ s=L at *
 generalize lo / 2 ^ (64-s)=Z at *
 generalize (2:Int) ^ s=S at *
 refine ⟨⟨by omega,by omega,by omega,by omega,by omega,by omega,by omega,by omega,by omega,by omega⟩,by omega,by omega⟩
theorem left_of (u d v q:Int) (v0:0<v) (v1:v<18446744073709551616) (h:q=(u*4294967296+d) / v) :
  ((u*4294967296%18446744073709551616+d)%18446744073709551616-q*v%18446744073709551616)%18446744073709551616=(u*4294967296+d)%v:=by
 have m:=Int.mul_ediv_add_emod (u*4294967296+d) v
 have m0:=Int.emod_nonneg (u*4294967296+d) (by omega:v≠0)
 have m1:=Int.emod_lt_of_pos (u*4294967296+d) v0
 rw [Int.mul_comm,←h] at m
 generalize q*v=P at *
 generalize (u*4294967296+d)%v=R at *
 omega
theorem whole (N y s:Int) (u d1 d0 v q1 q2 u2:Int) (y0:0<y) (s0:0<s) (hv:y*s=v) (hN:N*s=(u*4294967296+d1)*4294967296+d0)
  (h1:q1=(u*4294967296+d1) / v) (h2:u2=(u*4294967296+d1)%v) (h3:q2=(u2*4294967296+d0) / v) :
  N / y=q1*4294967296+q2∧(u2*4294967296+d0)%v / s=N%y:=by
 have v0:0<v:=by rw [←hv];exact Int.mul_pos y0 s0
 have m:=Int.mul_ediv_add_emod (u*4294967296+d1) v
 have k:=Int.mul_ediv_add_emod (u2*4294967296+d0) v
 have k0:=Int.emod_nonneg (u2*4294967296+d0) (by omega:v≠0)
 have k1:=Int.emod_lt_of_pos (u2*4294967296+d0) v0
 rw [←h1,←h2] at m
 rw [←h3] at k
 have e:N*s=(q1*4294967296+q2)*v+(u2*4294967296+d0)%v:=by
  have x:(q1*4294967296+q2)*v=v*q1*4294967296+v*q2:=by rw [Int.add_mul,Int.mul_comm q2,Int.mul_comm v q1,Int.mul_assoc,Int.mul_comm 4294967296,←Int.mul_assoc]
  rw [hN,←m,x]
  generalize v*q1=A at *
  generalize v*q2=C at *
  omega
 have a:N / y=q1*4294967296+q2:=by
  rw [←Int.mul_ediv_mul_of_pos_left N y s0,hv]
  exact div_of v _ _ _ e k0 k1
 refine ⟨a,?_⟩
 have b:=Int.mul_ediv_add_emod N y
 have e3:(u2*4294967296+d0)%v=N%y*s:=by
  have:N*s=(y*(N / y)+N%y)*s:=by rw [b]
  rw [this,a,Int.add_mul,Int.mul_assoc,Int.mul_comm (q1*4294967296+q2) s,←Int.mul_assoc,hv,Int.mul_comm v] at e
  omega
 rw [e3,Int.mul_ediv_cancel _ (by omega)]
theorem word_of (N y:Int) (y0:0<y) (n0:0≤N) (h:N<y*18446744073709551616):0≤N / y∧N / y<18446744073709551616 :=
 ⟨Int.ediv_nonneg n0 (Int.le_of_lt y0),Int.ediv_lt_of_lt_mul y0 (by rw [Int.mul_comm];exact h)⟩
end Go.Proofs.YtbbjileignefbaaGreatDoor.NumMath
namespace Go.Proofs.YtbbjileignefbaaGreatDoor
open Go.RowKit NumMath
theorem len64_any (x:Int) (w:World) (x0:1≤x) (x1:x<18446744073709551616) :
  Calls Tryz.prog 74 #[.int .u64 x] w fun e w'=>e=.returned (.int .i64 (Lib.bitLen x.toNat))∧w=w':=by
 by_cases h1:x<256
 ·exact len64_0 x w x0 h1
 by_cases h2:x<65536
 ·exact len64_8 x w (by omega) h2
 by_cases h3:x<16777216
 ·exact len64_16 x w (by omega) h3
 by_cases h4:x<4294967296
 ·exact len64_24 x w (by omega) h4
 by_cases h5:x<1099511627776
 ·exact len64_32 x w (by omega) h5
 by_cases h6:x<281474976710656
 ·exact len64_40 x w (by omega) h6
 by_cases h7:x<72057594037927936
 ·exact len64_48 x w (by omega) h7
 exact len64_56 x w (by omega) x1
theorem lead64_any (x:Int) (s:Nat) (w:World) (x0:1≤x) (x1:x<18446744073709551616) (hs:s≤63) (h:((Lib.bitLen x.toNat:Nat):Int)=64-s) :
  Calls Tryz.prog 57 #[.int .u64 x] w fun e w'=>e=.returned (.int .i64 s)∧w=w':=by
 have c:=len64_any x w x0 x1
 rw [h] at c
 have C:=Lib.hid c;clear c
 have H:=Lib.hid h;clear h
 go_enter Tryz.func57,Tryz.ntmps57
 go_wp2_with (go_at_call 74;refine C.out.mono ?_;rintro e w' ⟨rfl,rfl⟩)
 go_ret
 exact ⟨ret_int (by omega),rfl⟩
theorem div64_small (lo y:Int) (w:World) (l0:0≤lo) (l1:lo<18446744073709551616) (y0:1≤y) (y1:y<18446744073709551616) :
  Calls Tryz.prog 39 #[.int .u64 0,.int .u64 lo,.int .u64 y] w fun e w'=>e=.returned (.tuple #[.int .u64 (lo / y),.int .u64 (lo%y)])∧∃ n,w'=w.drewN n:=by
 have z:(y==0)=false:=by simp;omega
 go_enter Tryz.func39,Tryz.ntmps39
 go_wp2
 go_quiet (fail)
 go_wp2
 go_ret2
 exact ⟨rfl,_,rfl⟩
def GsRel (u v1 v0 d:Int) (a b:Value):Prop:=∃ q r:Int,a=.int .u64 q∧b=.int .u64 r∧Gq u v1 v0 d q r
theorem gs_prod (u v1 v0 d q r:Int) (b0:0≤v0) (b1:v0<4294967296) (h:Gq u v1 v0 d q r):0≤q*v0∧(q<4294967296→q*v0<18446744073709551616):=by
 obtain ⟨e,r0,r1,q0,q1,l⟩:=h
 refine ⟨Int.mul_nonneg q0 b0,fun h=>?_⟩
 have:=Int.mul_le_mul_of_nonneg_right (show q≤4294967295 by omega) b0
 omega
theorem gs_first (u v1 v0 d:Int) (a0:2147483648≤v1) (a1:v1<4294967296) (b0:0≤v0) (b1:v0<4294967296) (d0:0≤d) (d1:d<4294967296) (u0:0≤u) (u1:u<v1*4294967296+v0) :
  0≤u / v1∧Gq u v1 v0 d (u / v1) (IntKind.u64.wrap (u-IntKind.u64.wrap (u / v1*v1))):=by
 have h:=gs_start u v1 v0 d a0 a1 b0 b1 d0 d1 u0 u1
 obtain ⟨e,r0,r1,q0,q1,l⟩:=h
 refine ⟨q0,?_⟩
 rw [wrapu,wrapu,show (u-u / v1*v1%18446744073709551616)%18446744073709551616=u-u / v1*v1 from by omega]
 exact ⟨e,r0,r1,q0,q1,l⟩
theorem second (u v v1 v0 d q:Int) (a0:2147483648≤v1) (a1:v1<4294967296) (b0:0≤v0) (b1:v0<4294967296) (c0:0≤d) (c1:d<4294967296) (u0:0≤u) (u1:u<v1*4294967296+v0) (hv:v=v1*4294967296+v0) (h:q=(u*4294967296+d) / (v1*4294967296+v0)) :
  ∃ x:Int,IntKind.u64.wrap (IntKind.u64.wrap (IntKind.u64.wrap (u*4294967296)+d)-IntKind.u64.wrap (q*v))=x∧0≤x∧x<v1*4294967296+v0∧0≤q∧q<4294967296∧x=(u*4294967296+d)%v:=by
 refine ⟨_,rfl,?_⟩
 rw [←hv] at h u1 ⊢
 have e:=left_of u d v q (by omega) (by omega) h
 simp only [wrapu]
 rw [e]
 refine ⟨Int.emod_nonneg _ (by omega),Int.emod_lt_of_pos _ (by omega),?_,?_,rfl⟩
 ·rw [h];exact Int.ediv_nonneg (by omega) (by omega)
 ·rw [h];exact Int.ediv_lt_of_lt_mul (by omega) (by rw [Int.mul_comm];omega)
theorem third (N y u d1 d0 v v1 v0 q q2 x:Int) (s:Nat) (y0:0<y) (n0:0≤N) (n1:N<y*18446744073709551616) (a0:2147483648≤v1) (a1:v1<4294967296) (b0:0≤v0) (b1:v0<4294967296) (hv:v=v1*4294967296+v0) (ev:y*2 ^ s=v) (hN:N*2 ^ s=(u*4294967296+d1)*4294967296+d0)
  (h1:q=(u*4294967296+d1) / (v1*4294967296+v0)) (h2:x=(u*4294967296+d1)%v) (h3:q2=(x*4294967296+d0) / (v1*4294967296+v0)) :
  0≤N / y∧N / y<18446744073709551616∧N / y=q*4294967296+q2∧IntKind.u64.wrap (IntKind.u64.wrap (IntKind.u64.wrap (x*4294967296)+d0)-IntKind.u64.wrap (q2*v)) / 2 ^ s=N%y:=by
 rw [←hv] at h1 h3
 obtain ⟨w0,w1⟩:=word_of N y y0 n0 n1
 obtain ⟨f1,f2⟩:=whole N y (2 ^ s) u d1 d0 v q q2 x y0 (Int.pow_pos (by decide)) ev hN h1 h2 h3
 have e:=left_of x d0 v q2 (by omega) (by omega) h3
 refine ⟨w0,w1,f1,?_⟩
 simp only [wrapu]
 rw [e,f2]
set_option maxHeartbeats 4000000 in
set_option maxRecDepth 100000 in
theorem div64_great (hi lo y:Int) (s:Nat) (w:World) (h0:1≤hi) (h1:hi<y) (l0:0≤lo) (l1:lo<18446744073709551616) (y1:y<18446744073709551616)
  (s1:s≤63) (hs:((Lib.bitLen y.toNat:Nat):Int)=64-s) (t0:9223372036854775808≤y*2 ^ s) (t1:y*2 ^ s<18446744073709551616) :
  Calls Tryz.prog 39 #[.int .u64 hi,.int .u64 lo,.int .u64 y] w fun e w'=>e=.returned (.tuple #[.int .u64 ((hi*18446744073709551616+lo) / y),.int .u64 ((hi*18446744073709551616+lo)%y)])∧w=w':=by
 have z:(y==0)=false:=by simp;omega
 have z2:(hi==0)=false:=by simp;omega
 have HS:=Lib.hid hs;clear hs
 obtain ⟨v,v1,v0,u,t,d1,d0,ev,ev1,ev0,eu,et,ed1,ed0,⟨a0,a1,b0,b1,c0,c1,e0,e1,u0,u1⟩,eV,eN⟩:=prep hi lo y s (by omega) h1 l0 l1 s1 t0 t1
 have EV:=Lib.hid eV;have EN:=Lib.hid eN;clear eV eN
 have EV2:=Lib.hid ev
 rw [ev] at t0 t1
 have N0:0≤hi*18446744073709551616+lo:=by omega
 have N1:hi*18446744073709551616+lo<y*18446744073709551616:=by omega
 generalize hi*18446744073709551616+lo=N at *
 obtain ⟨q0,g0⟩:=gs_first u v1 v0 d1 a0 a1 b0 b1 c0 c1 u0 u1
 go_enter Tryz.func39,Tryz.ntmps39
 go_wp2_with (go_at_call 57;refine (lead64_any y s _ (by omega) (by omega) s1 HS.out).mono ?_;rintro e w' ⟨rfl,rfl⟩)
 go_loop [15,16] (fun a b=>GsRel u v1 v0 d1 a b) (fun a _=>(intOf a).toNat)
 case atStart=>exact ⟨_,_,rfl,rfl,g0⟩
 case round =>
  clear g0 q0
  obtain ⟨q,r,rfl,rfl,g⟩:=hrel
  obtain ⟨p0,p1⟩:=gs_prod u v1 v0 d1 q r b0 b1 g
  obtain ⟨r0,r1,q0,q1⟩:0≤r∧r<4294967296∧0≤q∧q≤4294967297:=⟨g.2.1,g.2.2.1,g.2.2.2.1,g.2.2.2.2.1⟩
  by_cases ht:4294967296≤q∨r*4294967296+d1<q*v0
  ·obtain ⟨l0,l1⟩:=gs_less u v1 v0 d1 a0 a1 b0 b1 c0 c1 u0 u1 q r g ht
   by_cases hb:4294967296≤r+v1
   ·have x2:=gs_break u v1 v0 d1 a0 a1 b0 b1 c0 c1 u0 u1 q r g l0 l1 hb
    obtain ⟨q',hq'⟩:∃ q',q-1=q':=⟨_,rfl⟩
    rw [hq'] at x2
    have X2:=Lib.hid x2;clear x2 g
    by_cases hq:4294967296≤q
    ·clear p1 ht
     obtain ⟨x,ex,x0,x1,y2,y3,x2⟩:=second u v v1 v0 d1 q' a0 a1 b0 b1 c0 c1 u0 u1 EV.out X2.out
     have X3:=Lib.hid x2;clear x2
     obtain ⟨m0,g0⟩:=gs_first x v1 v0 d0 a0 a1 b0 b1 e0 e1 x0 x1
     go_wp2
     go_loop [18,16] (fun a b=>GsRel x v1 v0 d0 a b) (fun a _=>(intOf a).toNat)
     case atStart=>exact ⟨_,_,rfl,rfl,g0⟩
     case round =>
      clear g0 m0
      obtain ⟨k,j,rfl,rfl,g⟩:=hrel
      obtain ⟨p0,p1⟩:=gs_prod x v1 v0 d0 k j b0 b1 g
      obtain ⟨r0,r1,q0,q1⟩:0≤j∧j<4294967296∧0≤k∧k≤4294967297:=⟨g.2.1,g.2.2.1,g.2.2.2.1,g.2.2.2.2.1⟩
      by_cases ht:4294967296≤k∨j*4294967296+d0<k*v0
      ·obtain ⟨l0,l1⟩:=gs_less x v1 v0 d0 a0 a1 b0 b1 e0 e1 x0 x1 k j g ht
       by_cases hb:4294967296≤j+v1
       ·have x3:=gs_break x v1 v0 d0 a0 a1 b0 b1 e0 e1 x0 x1 k j g l0 l1 hb
        obtain ⟨k',hk'⟩:∃ k',k-1=k':=⟨_,rfl⟩
        have T:=Lib.hid (third N y u d1 d0 v v1 v0 q' k' x s (by omega) N0 N1 a0 a1 b0 b1 EV.out EV2.out EN.out X2.out X3.out (by rw [←hk'];exact x3))
        clear x3 g
        by_cases hq:4294967296≤k
        ·clear p1 ht
         go_wp2
         go_ret2
         obtain ⟨f0,f1,f2,f3⟩:=T.out
         exact ⟨ret_ii (by (try simp only [wrapu]);omega) f3,rfl⟩
        ·have p2:=p1 (by omega)
         have l2:4294967296*j+d0<k*v0:=by omega
         clear p1 ht
         go_wp2
         go_ret2
         obtain ⟨f0,f1,f2,f3⟩:=T.out
         exact ⟨ret_ii (by (try simp only [wrapu]);omega) f3,rfl⟩
       ·have g2:=gs_more x v1 v0 d0 a0 a1 b0 b1 e0 e1 x0 x1 k j g l0 l1 (by omega)
        clear g
        by_cases hq:4294967296≤k
        ·clear p1 ht
         go_wp2
         go_round
         case rel=>exact ⟨_,_,rfl,rfl,g2⟩
         case measure=>simp [intOf];omega
        ·have p2:=p1 (by omega)
         have l2:4294967296*j+d0<k*v0:=by omega
         clear p1 ht
         go_wp2
         go_round
         case rel=>exact ⟨_,_,rfl,rfl,g2⟩
         case measure=>simp [intOf];omega
      ·have z0:k<4294967296:=by omega
       have z1:k*v0≤4294967296*j+d0:=by omega
       have p2:=p1 z0
       have x3:=gs_end x v1 v0 d0 a0 a1 b0 b1 e0 e1 x0 x1 k j g (by omega)
       have T:=Lib.hid (third N y u d1 d0 v v1 v0 q' k x s (by omega) N0 N1 a0 a1 b0 b1 EV.out EV2.out EN.out X2.out X3.out x3)
       clear x3 g p1 ht
       go_wp2
       go_ret2
       obtain ⟨f0,f1,f2,f3⟩:=T.out
       exact ⟨ret_ii (by (try simp only [wrapu]);omega) f3,rfl⟩
    ·have p2:=p1 (by omega)
     have l2:4294967296*r+d1<q*v0:=by omega
     clear p1 ht
     obtain ⟨x,ex,x0,x1,y2,y3,x2⟩:=second u v v1 v0 d1 q' a0 a1 b0 b1 c0 c1 u0 u1 EV.out X2.out
     have X3:=Lib.hid x2;clear x2
     obtain ⟨m0,g0⟩:=gs_first x v1 v0 d0 a0 a1 b0 b1 e0 e1 x0 x1
     go_wp2
     go_loop [18,16] (fun a b=>GsRel x v1 v0 d0 a b) (fun a _=>(intOf a).toNat)
     case atStart=>exact ⟨_,_,rfl,rfl,g0⟩
     case round =>
      clear g0 m0
      obtain ⟨k,j,rfl,rfl,g⟩:=hrel
      obtain ⟨p0,p1⟩:=gs_prod x v1 v0 d0 k j b0 b1 g
      obtain ⟨r0,r1,q0,q1⟩:0≤j∧j<4294967296∧0≤k∧k≤4294967297:=⟨g.2.1,g.2.2.1,g.2.2.2.1,g.2.2.2.2.1⟩
      by_cases ht:4294967296≤k∨j*4294967296+d0<k*v0
      ·obtain ⟨l0,l1⟩:=gs_less x v1 v0 d0 a0 a1 b0 b1 e0 e1 x0 x1 k j g ht
       by_cases hb:4294967296≤j+v1
       ·have x3:=gs_break x v1 v0 d0 a0 a1 b0 b1 e0 e1 x0 x1 k j g l0 l1 hb
        obtain ⟨k',hk'⟩:∃ k',k-1=k':=⟨_,rfl⟩
        have T:=Lib.hid (third N y u d1 d0 v v1 v0 q' k' x s (by omega) N0 N1 a0 a1 b0 b1 EV.out EV2.out EN.out X2.out X3.out (by rw [←hk'];exact x3))
        clear x3 g
        by_cases hq:4294967296≤k
        ·clear p1 ht
         go_wp2
         go_ret2
         obtain ⟨f0,f1,f2,f3⟩:=T.out
         exact ⟨ret_ii (by (try simp only [wrapu]);omega) f3,rfl⟩
        ·have p2:=p1 (by omega)
         have l2:4294967296*j+d0<k*v0:=by omega
         clear p1 ht
         go_wp2
         go_ret2
         obtain ⟨f0,f1,f2,f3⟩:=T.out
         exact ⟨ret_ii (by (try simp only [wrapu]);omega) f3,rfl⟩
       ·have g2:=gs_more x v1 v0 d0 a0 a1 b0 b1 e0 e1 x0 x1 k j g l0 l1 (by omega)
        clear g
        by_cases hq:4294967296≤k
        ·clear p1 ht
         go_wp2
         go_round
         case rel=>exact ⟨_,_,rfl,rfl,g2⟩
         case measure=>simp [intOf];omega
        ·have p2:=p1 (by omega)
         have l2:4294967296*j+d0<k*v0:=by omega
         clear p1 ht
         go_wp2
         go_round
         case rel=>exact ⟨_,_,rfl,rfl,g2⟩
         case measure=>simp [intOf];omega
      ·have z0:k<4294967296:=by omega
       have z1:k*v0≤4294967296*j+d0:=by omega
       have p2:=p1 z0
       have x3:=gs_end x v1 v0 d0 a0 a1 b0 b1 e0 e1 x0 x1 k j g (by omega)
       have T:=Lib.hid (third N y u d1 d0 v v1 v0 q' k x s (by omega) N0 N1 a0 a1 b0 b1 EV.out EV2.out EN.out X2.out X3.out x3)
       clear x3 g p1 ht
       go_wp2
       go_ret2
       obtain ⟨f0,f1,f2,f3⟩:=T.out
       exact ⟨ret_ii (by (try simp only [wrapu]);omega) f3,rfl⟩
   ·have g2:=gs_more u v1 v0 d1 a0 a1 b0 b1 c0 c1 u0 u1 q r g l0 l1 (by omega)
    clear g
    by_cases hq:4294967296≤q
    ·clear p1 ht
     go_wp2
     go_round
     case rel=>exact ⟨_,_,rfl,rfl,g2⟩
     case measure=>simp [intOf];omega
    ·have p2:=p1 (by omega)
     have l2:4294967296*r+d1<q*v0:=by omega
     clear p1 ht
     go_wp2
     go_round
     case rel=>exact ⟨_,_,rfl,rfl,g2⟩
     case measure=>simp [intOf];omega
  ·have z0:q<4294967296:=by omega
   have z1:q*v0≤4294967296*r+d1:=by omega
   have p2:=p1 z0
   have x2:=gs_end u v1 v0 d1 a0 a1 b0 b1 c0 c1 u0 u1 q r g (by omega)
   have X2:=Lib.hid x2;clear x2 g p1 ht
   obtain ⟨x,ex,x0,x1,y2,y3,x2⟩:=second u v v1 v0 d1 q a0 a1 b0 b1 c0 c1 u0 u1 EV.out X2.out
   have X3:=Lib.hid x2;clear x2
   obtain ⟨m0,g0⟩:=gs_first x v1 v0 d0 a0 a1 b0 b1 e0 e1 x0 x1
   go_wp2
   go_loop [18,16] (fun a b=>GsRel x v1 v0 d0 a b) (fun a _=>(intOf a).toNat)
   case atStart=>exact ⟨_,_,rfl,rfl,g0⟩
   case round =>
    clear g0 m0
    obtain ⟨k,j,rfl,rfl,g⟩:=hrel
    obtain ⟨p0,p1⟩:=gs_prod x v1 v0 d0 k j b0 b1 g
    obtain ⟨r0,r1,q0,q1⟩:0≤j∧j<4294967296∧0≤k∧k≤4294967297:=⟨g.2.1,g.2.2.1,g.2.2.2.1,g.2.2.2.2.1⟩
    by_cases ht:4294967296≤k∨j*4294967296+d0<k*v0
    ·obtain ⟨l0,l1⟩:=gs_less x v1 v0 d0 a0 a1 b0 b1 e0 e1 x0 x1 k j g ht
     by_cases hb:4294967296≤j+v1
     ·have x3:=gs_break x v1 v0 d0 a0 a1 b0 b1 e0 e1 x0 x1 k j g l0 l1 hb
      obtain ⟨k',hk'⟩:∃ k',k-1=k':=⟨_,rfl⟩
      have T:=Lib.hid (third N y u d1 d0 v v1 v0 q k' x s (by omega) N0 N1 a0 a1 b0 b1 EV.out EV2.out EN.out X2.out X3.out (by rw [←hk'];exact x3))
      clear x3 g
      by_cases hq:4294967296≤k
      ·clear p1 ht
       go_wp2
       go_ret2
       obtain ⟨f0,f1,f2,f3⟩:=T.out
       exact ⟨ret_ii (by (try simp only [wrapu]);omega) f3,rfl⟩
      ·have p2:=p1 (by omega)
       have l2:4294967296*j+d0<k*v0:=by omega
       clear p1 ht
       go_wp2
       go_ret2
       obtain ⟨f0,f1,f2,f3⟩:=T.out
       exact ⟨ret_ii (by (try simp only [wrapu]);omega) f3,rfl⟩
     ·have g2:=gs_more x v1 v0 d0 a0 a1 b0 b1 e0 e1 x0 x1 k j g l0 l1 (by omega)
      clear g
      by_cases hq:4294967296≤k
      ·clear p1 ht
       go_wp2
       go_round
       case rel=>exact ⟨_,_,rfl,rfl,g2⟩
       case measure=>simp [intOf];omega
      ·have p2:=p1 (by omega)
       have l2:4294967296*j+d0<k*v0:=by omega
       clear p1 ht
       go_wp2
       go_round
       case rel=>exact ⟨_,_,rfl,rfl,g2⟩
       case measure=>simp [intOf];omega
    ·have z0:k<4294967296:=by omega
     have z1:k*v0≤4294967296*j+d0:=by omega
     have p2:=p1 z0
     have x3:=gs_end x v1 v0 d0 a0 a1 b0 b1 e0 e1 x0 x1 k j g (by omega)
     have T:=Lib.hid (third N y u d1 d0 v v1 v0 q k x s (by omega) N0 N1 a0 a1 b0 b1 EV.out EV2.out EN.out X2.out X3.out x3)
     clear x3 g p1 ht
     go_wp2
     go_ret2
     obtain ⟨f0,f1,f2,f3⟩:=T.out
     exact ⟨ret_ii (by (try simp only [wrapu]);omega) f3,rfl⟩
end Go.Proofs.YtbbjileignefbaaGreatDoor
