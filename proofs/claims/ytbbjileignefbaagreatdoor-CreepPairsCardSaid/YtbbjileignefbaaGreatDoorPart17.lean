/- Part 17 of the texts that the proofs of this seat share: NumAll, StillRun, BoundsNums, BoundsFirst, CreepCode, RefBook, CreepTellsK, Laid. -/
import Derived.Test.YtbbjileignefbaaGreatDoorPart16
import Derived.BigQuiet
import Derived.Test.YtbbjileignefbaaGreatDoorPart3
import Derived.Test.YtbbjileignefbaaGreatDoorPart1
import Derived.Test.YtbbjileignefbaaGreatDoorPart4
import Derived.Test.YtbbjileignefbaaGreatDoorPart14
import Derived.Test.YtbbjileignefbaaGreatDoorPart15
import Derived.Test.YtbbjileignefbaaGreatDoorPart10
import Derived.Test.YtbbjileignefbaaGreatDoorPart13
import Derived.Test.YtbbjileignefbaaGreatDoorPart11
import Derived.Lib.LaidTab
import Derived.Stop.LaidErr
import Derived.MakeChecks
set_option linter.unusedSimpArgs false
set_option linter.unusedVariables false
namespace Go.Proofs.YtbbjileignefbaaGreatDoor
open Go.RowKit NumMath
theorem div64_any (hi lo y q r:Int) (w:World) (h0:0≤hi) (h1:hi<y) (l0:0≤lo) (l1:lo<18446744073709551616) (y1:y<18446744073709551616) (e1:q=(hi*18446744073709551616+lo) / y) (e2:r=(hi*18446744073709551616+lo)%y) :
  Calls Tryz.prog 39 #[.int .u64 hi,.int .u64 lo,.int .u64 y] w fun e w'=>e=.returned (.tuple #[.int .u64 q,.int .u64 r])∧∃ n,w'=w.drewN n:=by
 subst e1 e2
 by_cases h:hi=0
 ·subst h
  have e:(0:Int)*18446744073709551616+lo=lo:=by omega
  rw [e]
  exact div64_small lo y w l0 l1 (by omega) y1
 ·obtain ⟨s,s1,hs,t0,t1⟩:=lead y (by omega) y1
  refine (div64_great hi lo y s w (by omega) h1 l0 l1 y1 s1 hs t0 t1).mono ?_
  rintro e w' ⟨rfl,rfl⟩
  exact ⟨rfl,0,rfl⟩
theorem ret_same {p q:Int×Bool} (h:p=q):Ending.returned (.tuple #[.int .i64 q.1,.bool q.2])=.returned (.tuple #[.int .i64 p.1,.bool p.2]):=by rw [h]
theorem muldiv_zero (a b:Int) (w:World) (a0:-9223372036854775808≤a) (a1:a≤9223372036854775807) (b0:-9223372036854775808≤b) (b1:b≤9223372036854775807) :
  Calls Tryz.prog 25 #[.int .i64 a,.int .i64 b,.int .i64 0] w fun e w'=>e=.returned (.tuple #[.int .i64 (md a b 0).1,.bool (md a b 0).2])∧∃ n,w'=w.drewN n:=by
 have H:=Lib.hid (show md a b 0=(0,false) from rfl)
 obtain ⟨x0,x1⟩:=sz_bd a a0 a1
 obtain ⟨y0,y1⟩:=sz_bd b b0 b1
 have p0:0≤sz a*sz b:=Int.mul_nonneg x0 y0
 obtain ⟨hi,lo,e1,e2⟩:∃ hi lo,hi=sz a*sz b / 18446744073709551616∧lo=sz a*sz b%18446744073709551616:=⟨_,_,rfl,rfl⟩
 have h0:0≤hi:=by omega
 have E1:=Lib.hid e1;have E2:=Lib.hid e2;clear e1 e2 p0
 have z:sz 0=0:=rfl
 go_enter Tryz.func25,Tryz.ntmps25
 go_wp2_with (first | (go_at_call 38;refine (size_any _ _ (by omega) (by omega)).mono ?_;rintro e w' ⟨rfl,rfl⟩) | (go_at_call 37;refine (mul64_any _ _ hi lo _ (by omega) (by omega) (by omega) (by omega) E1.out E2.out).mono ?_;rintro e w' ⟨rfl,rfl⟩))
 go_ret2
 exact ⟨ret_pair H.out,0,rfl⟩
set_option maxHeartbeats 1000000 in
theorem muldiv_go (a b c:Int) (w:World) (a0:-9223372036854775808≤a) (a1:a≤9223372036854775807) (b0:-9223372036854775808≤b) (b1:b≤9223372036854775807) (c0:-9223372036854775808≤c) (c1:c≤9223372036854775807) (hc:c≠0) :
  Calls Tryz.prog 25 #[.int .i64 a,.int .i64 b,.int .i64 c] w fun e w'=>e=.returned (.tuple #[.int .i64 (md a b c).1,.bool (md a b c).2])∧∃ n,w'=w.drewN n:=by
 obtain ⟨hi,lo,qh,ql,r,e1,e2,e3,e4,e5,⟨h0,h1,l0,l1,q0,q1,k0,k1,r0,r1⟩,eN⟩:=words a b c a0 a1 b0 b1 c0 c1 hc
 obtain ⟨x0,x1⟩:=sz_bd a a0 a1
 obtain ⟨y0,y1⟩:=sz_bd b b0 b1
 obtain ⟨z0,z1⟩:=sz_bd c c0 c1
 have z2:=sz_pos c hc
 have F:=Lib.hid (md_all a b c _ _ hc eN (by omega) r0 r1)
 have eH:hi*18446744073709551616+lo=(qh*18446744073709551616+ql)*sz c+r:=by rw [←eN];omega
 have HC:=Lib.hid hc;clear hc
 by_cases hd:sz c≤hi
 ·have big:18446744073709551616≤qh*18446744073709551616+ql:=by
   refine Int.not_lt.1 fun h=>?_
   have:=Int.mul_le_mul_of_nonneg_right (show qh*18446744073709551616+ql≤18446744073709551615 by omega) z0
   generalize (qh*18446744073709551616+ql)*sz c=P at *
   omega
  have H:Hid (md a b c=(0,false)):=Lib.hid (by
   have f:=F.out
   cases g:neg3 a b c
   ·exact (f.1 g).2 (by omega)
   ·by_cases hr:0<r
    ·exact (f.2 g).2.2.2 hr (by omega)
    ·exact (f.2 g).2.1 (by omega) (by omega))
  have E1:=Lib.hid e1;have E2:=Lib.hid e2
  clear e1 e2 e3 e4 e5 eN eH
  go_enter Tryz.func25,Tryz.ntmps25
  go_wp2_with (first | (go_at_call 38;refine (size_any _ _ (by omega) (by omega)).mono ?_;rintro e w' ⟨rfl,rfl⟩) | (go_at_call 37;refine (mul64_any _ _ hi lo _ (by omega) (by omega) (by omega) (by omega) E1.out E2.out).mono ?_;rintro e w' ⟨rfl,rfl⟩))
  go_ret2
  exact ⟨ret_pair H.out,0,rfl⟩
 ·obtain ⟨q,eq⟩:∃ q,q=(hi*18446744073709551616+lo) / sz c:=⟨_,rfl⟩
  obtain ⟨w0,w1⟩:=word_of (hi*18446744073709551616+lo) (sz c) (by omega) (by omega) (by omega)
  rw [←eq] at w0 w1
  have eQ:qh*18446744073709551616+ql=q:=by rw [eq];omega
  rw [eQ] at eN
  have M1:=Lib.hid (md_plus a b c q r HC.out eN r0 r1)
  have M2:=Lib.hid (md_minus a b c q r HC.out eN r0 r1)
  have M3:=Lib.hid (md_less a b c q r HC.out eN r0 r1)
  have E1:=Lib.hid e1;have E2:=Lib.hid e2;have E5:=Lib.hid e5;have EQ:=Lib.hid eq
  clear e1 e2 e3 e4 e5 eN eH eQ eq F
  obtain ⟨x,hx⟩:∃ x,decide (a<0)=x:=⟨_,rfl⟩
  obtain ⟨y,hy⟩:∃ x,decide (b<0)=x:=⟨_,rfl⟩
  obtain ⟨z,hz⟩:∃ x,decide (c<0)=x:=⟨_,rfl⟩
  obtain ⟨u,hu⟩:∃ u,(x==y)=u:=⟨_,rfl⟩
  cases u<;>cases z
  all_goals
   have G:=Lib.hid (show neg3 a b c=_ by simp only [neg3,bne,hx,hy,hz,hu];rfl)
   by_cases hr:0<r
   all_goals
    by_cases hq:q<18446744073709551615
    all_goals
     go_enter Tryz.func25,Tryz.ntmps25
     go_wp2_with (first | (go_at_call 38;refine (size_any _ _ (by omega) (by omega)).mono ?_;rintro e w' ⟨rfl,rfl⟩) | (go_at_call 37;refine (mul64_any _ _ hi lo _ (by omega) (by omega) (by omega) (by omega) E1.out E2.out).mono ?_;rintro e w' ⟨rfl,rfl⟩) | (go_at_call 39;refine (div64_any _ _ _ q r _ (by omega) (by omega) (by omega) (by omega) (by omega) EQ.out E5.out).mono ?_;rintro e w' ⟨rfl,n,rfl⟩) | (go_at_call 40;refine (signed_any _ _ _ (by omega) (by omega)).mono ?_;rintro e w' ⟨rfl,rfl⟩))
     go_ret2
     refine ⟨?_,_,rfl⟩
     first
      | exact ret_same (M1.out G.out)
      | exact ret_same (M2.out G.out (by omega))
      | exact ret_same (M3.out G.out (by omega))
      | exact ret_pair ((M3.out G.out (by omega)).trans (sg_minus_no _ (by omega)))
theorem muldiv_any (a b c:Int) (w:World) (a0:-9223372036854775808≤a) (a1:a≤9223372036854775807) (b0:-9223372036854775808≤b) (b1:b≤9223372036854775807) (c0:-9223372036854775808≤c) (c1:c≤9223372036854775807) :
  Calls Tryz.prog 25 #[.int .i64 a,.int .i64 b,.int .i64 c] w fun e w'=>e=.returned (.tuple #[.int .i64 (md a b c).1,.bool (md a b c).2])∧∃ n,w'=w.drewN n:=by
 by_cases h:c=0
 ·subst h;exact muldiv_zero a b w a0 a1 b0 b1
 ·exact muldiv_go a b c w a0 a1 b0 b1 c0 c1 h
end Go.Proofs.YtbbjileignefbaaGreatDoor
namespace Go.Proofs.YtbbjileignefbaaGreatDoor
open Go.RowKit
def stillSem {α:Type} (P:Program):Sem α→List Value→Option (α×List Value×List (Addr×Value))
 | .pure a,vs=>some (a,vs,[])
 | .program k,vs=>stillSem P (k P) vs
 | .mark _ k,vs=>stillSem P k vs
 | .load _ a k,v :: vs=>(stillSem P (k v) vs).map fun x=>(x.1,x.2.1,(a,v) :: x.2.2)
 | _,_=>none
theorem stillSem_run {α:Type} {P:Program} {m:Sem α} {vs:List Value} {x:α×List Value×List (Addr×Value)} (h:stillSem P m vs=some x) (w:World) (hw:∀ p∈x.2.2,w.cell? p.1=some p.2):m.run P w=.ok x.1 w:=by
 induction m generalizing vs x with
 | pure b=>simp only [stillSem,Option.some.injEq] at h;rw [←h];rfl
 | program k ih=>exact ih P (by simpa only [stillSem] using h) hw
 | mark _ k ih=>exact ih (by simpa only [stillSem] using h) hw
 | load md a k ih =>
  cases vs with
  | nil=>simp only [stillSem] at h;cases h
  | cons v vs =>
   simp only [stillSem,Option.map_eq_some_iff] at h
   obtain ⟨y,hy,rfl⟩:=h
   have h0:w.cell? a=some v:=hw (a,v) (by simp)
   rw [Sem.run,h0]
   exact ih v (x:=y) hy (fun p hp=>hw p (by simp [hp]))
 | _=>simp only [stillSem] at h;cases h
def evalL (s:List Value):Operand→Value
 | .tmp t=>s.getD t undef
 | .const v=>v
 | .global g=>.pointer (some ⟨g,0,none⟩)
 | .func f=>.func (.func f) #[] #[]
theorem evalL_eq (s:List Value) (ds:List Deferred):Act.eval ⟨s.toArray,ds⟩=evalL s:=by
 funext x
 cases x<;>simp [Act.eval,evalL,List.getD]
def forceL {β:Type}:List Value→(List Value→β)→β
 | [],k=>k []
 | x :: xs,k=>forceL xs fun ys=>k (x :: ys)
theorem forceL_eq {β:Type} (l:List Value) (k:List Value→β):forceL l k=k l:=by
 induction l generalizing k with
 | nil=>rfl
 | cons x xs ih=>simp only [forceL,ih]
def stillVal (P:Program) (s:List Value) (o:Oper) (vs:List Value):Option (Value×List Value×List (Addr×Value)) :=
 match stillSem P (execOp (evalL s) o) vs with
 | some (.value v,r,ps)=>some (v,r,ps)
 | _=>none
def stillRun (P:Program):List Oper→List Value→List Value→Option (List Value×List (Addr×Value))
 | [],s,_=>some (s,[])
 | o :: rest,s,vs=>if o.guard.isNone then (match stillVal P s o vs,o.dst with
  | some (v,r,ps),some d=>forceL (s.set d v) fun s'=>(stillRun P rest s' r).map fun x=>(x.1,ps++x.2)
  | _,_=>none) else none
theorem stillRun_cons {P:Program} {o:Oper} {rest:List Oper} {s vs s':List Value} {ps:List (Addr×Value)} (h:stillRun P (o :: rest) s vs=some (s',ps)) :
  o.guard=none∧∃ (v:Value) (d:Nat) (r:List Value) (qs ts:List (Addr×Value)),o.dst=some d∧stillVal P s o vs=some (v,r,qs)∧stillRun P rest (s.set d v) r=some (s',ts)∧ps=qs++ts:=by
 unfold stillRun at h
 split at h
 ·rename_i hg
  have hg':o.guard=none:=by
   cases hh:o.guard with
   | none=>rfl
   | some x=>rw [hh] at hg;cases hg
  refine ⟨hg',?_⟩
  split at h
  ·rename_i v r qs d hv hd
   rw [forceL_eq,Option.map_eq_some_iff] at h
   obtain ⟨x,hx,he⟩:=h
   obtain ⟨rfl,rfl⟩:=Prod.mk.inj he
   exact ⟨v,d,r,qs,x.2,hd,hv,hx,rfl⟩
  ·cases h
 ·cases h
theorem stillVal_run {P:Program} {s vs r:List Value} {o:Oper} {v:Value} {ps:List (Addr×Value)} (ds:List Deferred) (h:stillVal P s o vs=some (v,r,ps)) (w:World) (hw:∀ p∈ps,w.cell? p.1=some p.2) :
  (execOp (Act.eval ⟨s.toArray,ds⟩) o).run P w=.ok (.value v) w:=by
 rw [evalL_eq]
 unfold stillVal at h
 split at h
 ·rename_i u r' ps' hu
  obtain ⟨rfl,e⟩:=Prod.mk.inj (Option.some.inj h)
  obtain ⟨rfl,rfl⟩:=Prod.mk.inj e
  exact stillSem_run hu w hw
 ·cases h
theorem put_still {s:List Value} {ds:List Deferred} {o:Oper} {d:Nat} (hd:o.dst=some d) (v:Value):Act.put ⟨s.toArray,ds⟩ o.dst v=⟨(s.set d v).toArray,ds⟩:=by
 rw [hd]
 simp [Act.put]
theorem want_still {o:Oper} (hg:o.guard=none) (y:Nat→Option Bool):Region.wanted o y=true:=by
 unfold Region.wanted
 rw [hg]
theorem wpQuiet_still {P:Program} {ops:Array Oper} {C:World→Prop} {Q:Act→Prop} {ds:List Deferred} {l m:List Oper} {s vs s':List Value} {ps:List (Addr×Value)}
  (h:stillRun P l s vs=some (s',ps)) (hw:∀ w,C w→∀ p∈ps,w.cell? p.1=some p.2) (hq:wpQuiet P ops C Q m ⟨s'.toArray,ds⟩):wpQuiet P ops C Q (l++m) ⟨s.toArray,ds⟩:=by
 induction l generalizing s vs ps with
 | nil =>
  simp only [stillRun,Option.some.injEq,Prod.mk.injEq] at h
  obtain ⟨rfl,-⟩:=h
  exact hq
 | cons o rest ih =>
  obtain ⟨hg,v,d,r,qs,ts,hd,hv,hr,rfl⟩:=stillRun_cons h
  show wpQuiet P ops C Q (o :: (rest++m)) _
  unfold wpQuiet
  rw [if_pos (want_still hg _)]
  refine ⟨v,fun w hC=>?_,by rw [put_still hd];exact ih hr (fun w hC p hp=>hw w hC p (by simp [hp]))⟩
  unfold Oper.quietAt
  rw [stillVal_run ds hv w (fun p hp=>hw w hC p (by simp [hp]))]
  exact ⟨rfl,rfl⟩
theorem wpQuiet_stills {P:Program} {ops:Array Oper} {C:World→Prop} {Q:Act→Prop} {ds:List Deferred} {l:List Oper} {s vs s':List Value} {ps:List (Addr×Value)}
  (h:stillRun P l s vs=some (s',ps)) (hw:∀ w,C w→∀ p∈ps,w.cell? p.1=some p.2) (hq:wpQuiet P ops C Q [] ⟨s'.toArray,ds⟩):wpQuiet P ops C Q l ⟨s.toArray,ds⟩:=by
 have:=wpQuiet_still (m:=[]) h hw hq
 rwa [List.append_nil] at this
def numC (B i:Nat):List Value:=[.pointer (some ⟨B,cellJ i,none⟩),.int .i64 (lowJ i),.int .i64 (topJ i)]
def numL (B:Nat):List Value:=(List.range 28).flatMap (numC B)
theorem numL_length (B:Nat):(numL B).length=84:=rfl
theorem numL_one (B:Nat):(numL B).toArray.all (·.oneCell')=true:=by
 rw [List.all_toArray];rfl
theorem nums_zero:Tryz.zeroCells67.size=84:=by kernel_rfl
theorem nums_there (w:World):(w.alloc (.cells Tryz.zeroCells67 67)).there w.heap.size 0 84:=fun j hj=>by
 rw [Nat.zero_add]
 refine ⟨?_,by simp [go_sem]⟩
 rw [cell_new,Array.getElem?_eq_getElem (by rw [nums_zero];exact hj)]
 rfl
theorem nums_one (B:Nat) {i:Nat} (h:i<28) (w:World):(Instr.index 67 (.agg (numL B).toArray) (.int .i64 (i:Int))).run Tryz.prog w=.ok (.agg (numC B i).toArray) w:=by
 rcases num_ways h with rfl | rfl | rfl | rfl | rfl | rfl | rfl | rfl | rfl | rfl | rfl | rfl | rfl | rfl | rfl | rfl | rfl | rfl | rfl | rfl | rfl | rfl | rfl | rfl | rfl | rfl | rfl | rfl
 all_goals exact (show _=_ from by kernel_rfl)
abbrev P (B j:Nat):Value:=.pointer (some ⟨B,j,none⟩)
abbrev N (B i:Nat):Value:=.agg (numC B i).toArray
def numF (R B:Nat):List Value :=
 P B 0 :: undef :: P R 0 :: P B 0 :: P B 0 :: P B 1 :: N B 0 :: P B 0 :: P B 0 :: P B 2 :: P B 2 :: N B 1 ::
 P B 0 :: P B 0 :: P B 2 :: P B 3 :: N B 2 :: P B 0 :: P B 0 :: P B 4 :: N B 3 :: P B 0 :: P B 0 :: P B 5 ::
 N B 4 :: P B 0 :: P B 0 :: P B 6 :: N B 5 :: P B 0 :: P B 0 :: P B 7 :: N B 6 :: P B 0 :: P B 0 :: P B 8 ::
 N B 7 :: P B 0 :: P B 0 :: P B 9 :: N B 8 :: P B 0 :: P B 0 :: P B 10 :: N B 9 :: P B 0 :: P B 0 :: P B 11 ::
 N B 10 :: P B 0 :: P B 0 :: P B 16 :: N B 11 :: P B 0 :: P B 0 :: P B 17 :: N B 12 :: P B 0 :: P B 0 :: P B 18 ::
 N B 13 :: P B 0 :: P B 0 :: P B 19 :: N B 14 :: P B 0 :: P B 0 :: P B 20 :: N B 15 :: P B 0 :: P B 0 :: P B 21 ::
 N B 16 :: P B 0 :: P B 0 :: P B 22 :: N B 17 :: P B 0 :: P B 0 :: P B 23 :: N B 18 :: P B 0 :: P B 0 :: P B 24 ::
 N B 19 :: P B 0 :: P B 0 :: P B 25 :: N B 20 :: P B 0 :: P B 0 :: P B 26 :: N B 21 :: P B 0 :: P B 0 :: P B 27 ::
 N B 22 :: P B 0 :: P B 0 :: P B 28 :: N B 23 :: P B 0 :: P B 0 :: P B 29 :: N B 24 :: P B 0 :: P B 0 :: P B 30 ::
 N B 25 :: P B 0 :: P B 0 :: P B 31 :: N B 26 :: P B 0 :: P B 0 :: P B 32 :: N B 27 :: undef :: []
set_option maxRecDepth 100000 in
set_option maxHeartbeats 4000000 in
theorem numbers_any (B:Nat) (w:World):Calls Tryz.prog 35 #[.pointer (some ⟨B,0,none⟩)] w fun e w'=>e=.returned (.agg (numL B).toArray)∧Below w.heap.size w w':=by
 have hT:=nums_there w
 have HT:=Lib.hid hT
 clear hT
 go_enter Tryz.func35,Tryz.ntmps35
 go_wp2
 generalize hw1:w.alloc (.cells Tryz.zeroCells67 67)=w1 at *
 have HW:=Lib.hid hw1
 clear hw1
 refine later_start (w:=w1) ?_
 intro u
 simp only [List.append]
 refine wp_region_later_tail 114 (by kernel_rfl) (lexTail_quick (by kernel_rfl)) ?_
 simp only [List.take_succ_cons,List.take_zero,List.drop_succ_cons,List.drop_zero]
 refine wpQuiet_stills (vs:=[]) (s':=numF w.heap.size B) (ps:=[]) ?still (fun _ _ _ hp=>by cases hp) ?_
 case still=>kernel_rfl
 refine wpQuiet_nil ?_
 rintro _ ⟨u2,rfl⟩
 have HT2:=Lib.hid (there_up HT.out u2.up)
 have HU:=Lib.hid u2.up
 generalize u2.now=w2 at *
 refine wpList_build_to rfl 67 _ rfl (numL B).toArray (by kernel_rfl) ?_
 refine wpList_store_mid rfl 67 _ _ rfl w.heap.size 0 (numL B).toArray rfl rfl HT2.out (by kernel_rfl) (numL_one B) ?_
 have HR:=Lib.hid (World.rangeAt_setCells_same _ w.heap.size 0 (numL B) (by rw [numL_length];exact HT2.out))
 have HB:=Lib.hid (below_setCells (Nat.le_refl w.heap.size) (numL B) 0 _ (up_trans (by rw [←HW.out];exact up_alloc (Below.refl _ _) _) HU.out))
 generalize w2.setCells w.heap.size 0 (numL B)=w3 at *
 refine wpList_nil ?_
 go_wp2
 exact bodyPost_ret (v:=.agg (numL B).toArray) (results_wide Tryz.results35 w.heap.size rfl _ _ HR.out Tryz.underlying67 rfl (by kernel_rfl)) rfl ⟨rfl,HB.out⟩
def FirstRel (w:World) (n:Nat→Int) (i:Value) (wr:World):Prop:=∃ k:Nat,k≤28∧i=.int .i64 (k:Int)∧(∀ j,j<k→okJ n j=true)∧∃ u:Later w,wr=u.now
set_option maxHeartbeats 1000000 in
theorem bFirst_any (cs:List Value) (n:Nat→Int) (w:World) (hl:cs.length=33) (hv:∀ k,k<28→cs[cellJ k]?=some (.int .i64 (n k))) :
  Calls Tryz.prog 24 #[.agg cs.toArray] w fun e w'=>e=.returned (.int .i64 (firstJ n))∧Below w.heap.size w w':=by
 have HB:=Lib.hid (up_alloc (Below.refl w.heap.size w) (.cells cs.toArray 29))
 have HX:=Lib.hid (Bx.new w 29 cs)
 have HI:=Lib.hid (fun (k:Nat) (hk:k<28)=>show ∀ w1,(Instr.index 67 (.agg (numL w.heap.size).toArray) (.int .i64 (k:Int))).run Tryz.prog w1=.ok (.agg #[.pointer (some ⟨w.heap.size,cellJ k,none⟩),.int .i64 (lowJ k),.int .i64 (topJ k)]) w1 from fun w1=>nums_one w.heap.size hk w1)
 have HV:=Lib.hid hv
 have HL:=Lib.hid hl
 have HN:=Lib.hid (fun w1=>numbers_any w.heap.size w1)
 generalize (numL w.heap.size).toArray=nl at *
 have HF:=Lib.hid (fun (k:Nat) (hk:k<28) (h:∀ j,j<k→okJ n j=true) (h0:okJ n k=false)=>firstJ_at hk h h0)
 have HZ:=Lib.hid (fun h=>firstJ_none (n:=n) h)
 generalize firstJ n=F at *
 clear hv hl
 go_enter Tryz.func24,Tryz.ntmps24
 go_wp2_with fail
 refine (HN.out _).mono ?_
 rintro e w1 ⟨rfl,hb⟩
 have HX1:=Lib.hid (HX.out.later (by rw [HL.out];decide) hb)
 have HB1:=Lib.hid (up_trans HB.out hb)
 clear hb
 generalize hB:w.heap.size=B at *
 have HBB:=Lib.hid hB
 clear hB
 go_wp2
 go_loopw [6] (fun i wr=>FirstRel w1 n i wr) (fun i _=>28-(intOf i).toNat)
 case atStart=>exact ⟨0,by omega,by go_num,fun j hj=>absurd hj (Nat.not_lt_zero _),⟨w1,Below.refl _ _⟩,rfl⟩
 case round =>
  obtain ⟨k,hk,rfl,hall,u,rfl⟩:=hrel
  have HA:=Lib.hid hall
  clear hall
  by_cases hlt:k<28
  ·have h1:=HI.out k hlt
   have z1:(k:Int)<28:=by omega
   obtain ⟨W,hW⟩:∃ W,u.now=W:=⟨_,rfl⟩
   have HU:=Lib.hid u.up
   have HX2:=Lib.hid (HX1.out.later (by rw [HL.out];decide) u.up)
   rw [hW] at HU HX2
   rw [hW]
   have hc:=HX2.out.cell (cellJ k) (HV.out k hlt)
   obtain ⟨v,hvv⟩:∃ v,n k=v:=⟨_,rfl⟩
   have hok:okJ n k=(decide (lowJ k≤n k)&&decide (n k≤topJ k)):=rfl
   rw [hvv] at hc hok
   generalize cellJ k=j at *
   generalize lowJ k=lo at *
   generalize topJ k=hi at *
   have KI:=fun w=>in_any v lo hi w
   rw [←hok] at KI
   obtain ⟨b,hb⟩:∃ b,okJ n k=b:=⟨_,rfl⟩
   rw [hb] at KI
   have HOk:=Lib.hid hb
   have HK:=Lib.hid (fun w1=>(KI w1).mono fun e w' ⟨he,hw⟩=>(⟨he,hw ▸ Below.refl _ _⟩:e=Ending.returned (.bool b)∧Below w1.heap.size w1 w'))
   clear hok hb KI
   go_wp2
   have HC:=Bx.new W 66 [.pointer (some ⟨B,j,none⟩),.int .i64 lo,.int .i64 hi]
   have hcc:=Lib.hid (bl_cell (up_alloc (Below.refl _ W) (.cells #[.pointer (some ⟨B,j,none⟩),.int .i64 lo,.int .i64 hi] 66)) hc)
   have HUU:=Lib.hid (up_alloc HU.out (.cells #[.pointer (some ⟨B,j,none⟩),.int .i64 lo,.int .i64 hi] 66))
   generalize hw5:W.alloc (.cells #[.pointer (some ⟨B,j,none⟩),.int .i64 lo,.int .i64 hi] 66)=w5 at *
   clear hw5 hc hvv
   refine later_start (w:=w5) ?_
   intro u5
   have c0:=fun u:Later w5=>u.cell (HC.cell 0 rfl)
   have c1:=fun u:Later w5=>u.cell (HC.cell 1 rfl)
   have c2:=fun u:Later w5=>u.cell (HC.cell 2 rfl)
   have c3:=fun u:Later w5=>u.cell hcc.out
   cases b
   all_goals
    refine wp_region_later (by kernel_rfl) (by kernel_rfl) ?_
    repeat (go_big_quiet_step ((go_at_call 36;with_reducible exact Later.call (HK.out _))))
    refine wpQuiet_nil ?_
    rintro _ ⟨u2,rfl⟩
    clear c0 c1 c2 c3
    have HU2:=Lib.hid (up_trans HUU.out u2.up)
    generalize u2.now=w6 at *
    go_wp2
   ·go_ret
    exact ⟨by rw [HF.out k hlt HA.out HOk.out];rfl,up_trans (by rw [HBB.out];exact HB1.out) HU2.out⟩
   ·go_roundw
    case rel=>exact ⟨k+1,by omega,by go_num,okJ_snoc HA.out HOk.out,⟨w6,HU2.out⟩,rfl⟩
    case measure=>simp [intOf];omega
  ·have hk2:k=28:=by omega
   subst hk2
   go_wp2
   go_ret
   exact ⟨by rw [HZ.out HA.out];rfl,up_trans (by rw [HBB.out];exact HB1.out) u.up⟩
end Go.Proofs.YtbbjileignefbaaGreatDoor
namespace Go.Proofs.YtbbjileignefbaaGreatDoor
open Go.RowKit
open NumMath (md)
theorem lvs_leaves {j:Jb} (h:0<lvsJ j):(lvsJ j:Int)=leavesS j:=by
 unfold lvsJ at *
 have hno:¬ ((0:Int)<0∨copM j≤0):=fun e=>by
  rw [bookM_none e] at h
  exact absurd h (Nat.lt_irrefl _)
 obtain ⟨hm,-⟩:=cop_may hno
 rw [bookM_length hno]
 exact leafN_all (may_facts hm).2.1
set_option maxRecDepth 100000 in
set_option maxHeartbeats 1000000 in
theorem crIn_core (cs:List Value) (b x T r m v o P A:Int) (ok s:Bool) (w:World) (hL:cs.length=33) (h11:cs[11]?=some (.int .i64 b)) (e3:(b != 1)=s)
  (hv:ok=true→(0≤x∧x<T∧T≤3200000)∧T-1=r∧r-x=m∧min x m=v) (h0:ok=false→o=0) (h1:ok=true→s=true→o=0) (h2:ok=true→s=false→o=v)
  (KW:∀ w1,Below w.heap.size w w1→Calls Tryz.prog 34 #[.agg cs.toArray,.int .i64 0,.int .i64 x] w1 fun e w'=>e=.returned (.tuple #[.int .i64 P,.int .i64 A,.bool ok])∧Below w1.heap.size w1 w')
  (KT:∀ w1,Below w.heap.size w w1→Calls Tryz.prog 14 #[.agg cs.toArray] w1 fun e w'=>e=.returned (.int .i64 T)∧Below w1.heap.size w1 w') :
  Calls Tryz.prog 23 #[.agg cs.toArray,.int .i64 x] w fun e w'=>e=.returned (.tuple #[.int .i64 o,.bool ok])∧Below w.heap.size w w':=by
 have HX:=Lib.hid (Bx.new w 29 cs)
 have HB:=Lib.hid (up_alloc (Below.refl w.heap.size w) (.cells cs.toArray 29))
 have HL:=Lib.hid hL;have H11:=Lib.hid h11;have HW:=Lib.hid KW;have HT:=Lib.hid KT;have HV:=Lib.hid hv
 have Z0:=Lib.hid h0;have Z1:=Lib.hid h1;have Z2:=Lib.hid h2
 clear hL h11 KW KT hv h0 h1 h2
 go_enter Tryz.func23,Tryz.ntmps23
 go_wp2_with (refine wpList_load_job rfl _ rfl w.heap.size rfl cs HX.out HL.out ?_;simp only [Act.put,List.setIfInBounds_toArray,List.set_cons_succ,List.set_cons_zero])
 refine (HW.out _ HB.out).mono ?_
 rintro e w1 ⟨rfl,hb⟩
 have HX1:=Lib.hid (HX.out.later (by rw [HL.out];decide) hb)
 have HB1:=Lib.hid (up_trans HB.out hb)
 have c11:=HX1.out.cell 11 H11.out
 clear hb
 cases ok
 ·obtain rfl:=Z0.out rfl
  go_wp2
  go_ret2
  exact ⟨rfl,HB1.out⟩
 cases s
 ·obtain rfl:=Z2.out rfl rfl
  obtain ⟨⟨x0,x1,t1⟩,q1,q2,q3⟩:=HV.out rfl
  have r0:0≤r∧r≤3200000:=by omega
  have m0:0≤m∧m≤3200000:=by omega
  go_wp2_with (refine wpList_load_job rfl _ rfl w.heap.size rfl cs HX1.out HL.out ?_;simp only [Act.put,List.setIfInBounds_toArray,List.set_cons_succ,List.set_cons_zero])
  refine (HT.out _ HB1.out).mono ?_
  rintro e w2 ⟨rfl,hb⟩
  have HB2:=Lib.hid (up_trans HB1.out hb)
  clear hb
  go_wp2
  go_ret2
  exact ⟨rfl,HB2.out⟩
 ·obtain rfl:=Z1.out rfl rfl
  go_wp2
  go_ret2
  exact ⟨rfl,HB1.out⟩
theorem atO_has (j:Jb) (x:Int):(atO j 0 x).isSome=hasL j x:=by
 unfold atO hasL
 by_cases h:x<0
 ·rw [if_pos h,decide_eq_false (by omega:¬ 0≤x)]
  rfl
 ·rw [if_neg h,Bool.eq_iff_iff,decide_eq_true (by omega:0≤x)]
  unfold lvsJ
  simp
  omega
theorem crIn_any (cs:List Value) (j:Jb) (x:Int) (w:World) (h:JobA w cs j) (hf:WfF j) (hg:GoodM w) (hx:Int64 x) :
  Calls Tryz.prog 23 #[.agg cs.toArray,.int .i64 x] w fun e w'=>e=.returned (.tuple #[.int .i64 (outO j x),.bool (hasL j x)])∧Below w.heap.size w w':=by
 have hs:=lvs_small j
 refine crIn_core cs (j.n 10) x (leavesS j) (leavesS j-1) (leavesS j-1-x) (min x (leavesS j-1-x)) (outO j x) ((atO j 0 x).getD (0,0)).1 ((atO j 0 x).getD (0,0)).2 (hasL j x) _ w h.length (h.num (k:=10) (by decide)) rfl (fun hh=>?_) (fun hh=>?_) (fun hh hs=>?_) (fun hh hs=>?_)
  (fun w1 hb=>?_) (fun w1 hb=>spLeaves_any cs j w1 (h.up hb) hf (hg.below hb))
 ·rw [has_iff] at hh
  have:=lvs_leaves (show 0<lvsJ j by omega)
  exact ⟨by omega,rfl,rfl,rfl⟩
 ·unfold outO
  rw [if_neg (by rw [hh];decide)]
 ·simp at hs
  unfold outO outM
  rw [if_pos hh,if_neg hs]
 ·simp at hs
  unfold outO outM
  rw [if_pos hh,if_pos hs]
  rw [has_iff] at hh
  have:=lvs_leaves (show 0<lvsJ j by omega)
  rw [←this]
  split<;>omega
 ·have:=ordWhere cs j 0 x w1 (h.up hb) hf (hg.below hb) (by unfold Int64;omega) hx
  rw [atO_has] at this
  exact this
set_option maxRecDepth 100000 in
set_option maxHeartbeats 1000000 in
theorem crOutside_core (cs:List Value) (x o:Int) (ok:Bool) (w:World) (hL:cs.length=33)
  (KI:∀ w1,Below w.heap.size w w1→Calls Tryz.prog 23 #[.agg cs.toArray,.int .i64 x] w1 fun e w'=>e=.returned (.tuple #[.int .i64 o,.bool ok])∧Below w1.heap.size w1 w') :
  Calls Tryz.prog 11 #[.agg cs.toArray,.int .i64 x] w fun e w'=>e=.returned (.int .i64 o)∧Below w.heap.size w w':=by
 have HX:=Lib.hid (Bx.new w 29 cs)
 have HB:=Lib.hid (up_alloc (Below.refl w.heap.size w) (.cells cs.toArray 29))
 have HL:=Lib.hid hL;have HK:=Lib.hid KI
 clear hL KI
 go_enter Tryz.func11,Tryz.ntmps11
 go_wp2_with (refine wpList_load_job rfl _ rfl w.heap.size rfl cs HX.out HL.out ?_;simp only [Act.put,List.setIfInBounds_toArray,List.set_cons_succ,List.set_cons_zero])
 refine (HK.out _ HB.out).mono ?_
 rintro e w1 ⟨rfl,hb⟩
 have HB1:=Lib.hid (up_trans HB.out hb)
 clear hb
 go_wp2
 go_ret
 exact ⟨rfl,HB1.out⟩
theorem crOutside:CrOutside:=fun cs j x w h hf hg hx=>crOutside_core cs x _ _ w h.length fun w1 hb=>crIn_any cs j x w1 (h.up hb) hf (hg.below hb) hx
set_option maxRecDepth 100000 in
set_option maxHeartbeats 1000000 in
theorem crOf_core (cs:List Value) (x o F c p a b d:Int) (ok t is:Bool) (w:World) (hL:cs.length=33)
  (c19:cs[22]?=some (.int .i64 a)) (c20:cs[23]?=some (.int .i64 b)) (c21:cs[24]?=some (.int .i64 d)) (et:(F != -1)=t)
  (h0:ok=false→c=0∧is=false) (h1:t=true→c=0∧is=false)
  (h2:ok=true→t=false→o*a=p∧(-9223372036854775808≤p∧p≤9223372036854775807)∧∀ w1,Calls Tryz.prog 25 #[.int .i64 p,.int .i64 b,.int .i64 d] w1 fun e w'=>e=.returned (.tuple #[.int .i64 c,.bool is])∧∃ n,w'=w1.drewN n)
  (KI:∀ w1,Below w.heap.size w w1→Calls Tryz.prog 23 #[.agg cs.toArray,.int .i64 x] w1 fun e w'=>e=.returned (.tuple #[.int .i64 o,.bool ok])∧Below w1.heap.size w1 w')
  (KF:∀ w1,Below w.heap.size w w1→Calls Tryz.prog 24 #[.agg cs.toArray] w1 fun e w'=>e=.returned (.int .i64 F)∧Below w1.heap.size w1 w') :
  Calls Tryz.prog 9 #[.agg cs.toArray,.int .i64 x] w fun e w'=>e=.returned (.tuple #[.int .i64 c,.bool is])∧Below w.heap.size w w':=by
 have HX:=Lib.hid (Bx.new w 29 cs)
 have HB:=Lib.hid (up_alloc (Below.refl w.heap.size w) (.cells cs.toArray 29))
 have HL:=Lib.hid hL;have HK:=Lib.hid KI;have HF:=Lib.hid KF;have Z0:=Lib.hid h0;have Z1:=Lib.hid h1;have Z2:=Lib.hid h2
 have H19:=Lib.hid c19;have H20:=Lib.hid c20;have H21:=Lib.hid c21
 clear hL KI KF h0 h1 h2 c19 c20 c21
 go_enter Tryz.func9,Tryz.ntmps9
 go_wp2_with (refine wpList_load_job rfl _ rfl w.heap.size rfl cs HX.out HL.out ?_;simp only [Act.put,List.setIfInBounds_toArray,List.set_cons_succ,List.set_cons_zero])
 refine (HK.out _ HB.out).mono ?_
 rintro e w1 ⟨rfl,hb⟩
 have HX1:=Lib.hid (HX.out.later (by rw [HL.out];decide) hb)
 have HB1:=Lib.hid (up_trans HB.out hb)
 clear hb
 cases ok
 ·obtain ⟨rfl,rfl⟩:=Z0.out rfl
  go_wp2
  go_ret2
  exact ⟨rfl,HB1.out⟩
 go_wp2_with (refine wpList_load_job_want _ rfl rfl w.heap.size rfl cs HX1.out HL.out ?_;simp only [Act.put,List.setIfInBounds_toArray,List.set_cons_succ,List.set_cons_zero])
 refine (HF.out _ HB1.out).mono ?_
 rintro e w2 ⟨rfl,hb⟩
 have HX2:=Lib.hid (HX1.out.later (by rw [HL.out];decide) hb)
 have HB2:=Lib.hid (up_trans HB1.out hb)
 clear hb
 cases t
 ·obtain ⟨e1,⟨p0,p1⟩,KM⟩:=Z2.out (by trivial) (by trivial)
  have HM:=Lib.hid KM
  have k19:=HX2.out.cell 22 H19.out;have k20:=HX2.out.cell 23 H20.out;have k21:=HX2.out.cell 24 H21.out
  clear Z0 Z1 Z2 KM
  go_wp2_with fail
  refine (HM.out _).mono ?_
  rintro e w3 ⟨rfl,n,rfl⟩
  have HB3:=Lib.hid (up_drewN HB2.out n)
  go_wp2
  go_ret2
  exact ⟨rfl,HB3.out⟩
 ·obtain ⟨rfl,rfl⟩:=Z1.out rfl
  go_wp2
  go_ret2
  exact ⟨rfl,HB2.out⟩
theorem firstJ_low (n:Nat→Int):(firstJ n != -1)=decide (0≤firstJ n):=by
 have h:firstJ n=-1∨0≤firstJ n:=by
  unfold firstJ
  split
  ·right;omega
  ·left;rfl
 rw [Bool.eq_iff_iff]
 simp
 omega
theorem crOf:CrOf:=fun cs j x w h hf hg hx=>by
 have hs:=lvs_small j
 refine crOf_core cs x (outO j x) (firstJ j.n) (crpO j x) (outO j x*j.n 17) (j.n 17) (j.n 18) (j.n 19) (hasL j x) _ _ w h.length (h.num (k:=17) (by decide)) (h.num (k:=18) (by decide)) (h.num (k:=19) (by decide)) (firstJ_low _) (fun hh=>?_) (fun ht=>?_) (fun hh ht=>?_)
  (fun w1 hb=>crIn_any cs j x w1 (h.up hb) hf (hg.below hb) hx) (fun w1 hb=>bFirst_any cs j.n w1 h.length fun k hk=>h.num hk)
 ·have e:isCr j x=false:=by unfold isCr;rw [hh,Bool.and_false]
  unfold crpO
  rw [e]
  exact ⟨rfl,rfl⟩
 ·have e:isCr j x=false:=by
   unfold isCr
   rw [decide_eq_true_eq] at ht
   rw [decide_eq_false (by omega),Bool.false_and]
  unfold crpO
  rw [e]
  exact ⟨rfl,rfl⟩
 ·rw [decide_eq_false_iff_not] at ht
  have hF:firstJ j.n<0:=by omega
  have e:isCr j x=true:=by unfold isCr;rw [hh,decide_eq_true hF];rfl
  have hh':=has_iff.1 hh
  have eo:outO j x=outM (j.n 10) x (lvsJ j):=by unfold outO;rw [if_pos hh]
  have hb:=outM_bounds (b:=j.n 10) hh'.1 hh'.2
  obtain ⟨k0,k1,k2⟩:=crp_bounds hF hb.1 (by omega)
  obtain ⟨⟨a0,a1⟩,⟨b0,b1⟩,c0,c1⟩:=cr_facts hF
  refine ⟨rfl,by rw [eo];omega,fun w1=>?_⟩
  have:=muldiv_any (outM (j.n 10) x (lvsJ j)*j.n 17) (j.n 18) (j.n 19) w1 (by omega) (by omega) (by omega) (by omega) (by omega) (by omega)
  rw [crp_md hF hb.1 (by omega)] at this
  rw [eo,e]
  unfold crpO
  rw [if_pos e]
  exact this
set_option maxRecDepth 100000 in
set_option maxHeartbeats 1000000 in
theorem crMost_core (cs:List Value) (T y c:Int) (is:Bool) (w:World) (hL:cs.length=33) (t0:0≤T∧T≤1000000000) (hy:T / 2=y)
  (KT:∀ w1,Below w.heap.size w w1→Calls Tryz.prog 14 #[.agg cs.toArray] w1 fun e w'=>e=.returned (.int .i64 T)∧Below w1.heap.size w1 w')
  (KO:∀ w1,Below w.heap.size w w1→Calls Tryz.prog 9 #[.agg cs.toArray,.int .i64 y] w1 fun e w'=>e=.returned (.tuple #[.int .i64 c,.bool is])∧Below w1.heap.size w1 w') :
  Calls Tryz.prog 13 #[.agg cs.toArray] w fun e w'=>e=.returned (.tuple #[.int .i64 c,.bool is])∧Below w.heap.size w w':=by
 have HX:=Lib.hid (Bx.new w 29 cs)
 have HB:=Lib.hid (up_alloc (Below.refl w.heap.size w) (.cells cs.toArray 29))
 have HL:=Lib.hid hL;have HT:=Lib.hid KT;have HO:=Lib.hid KO
 clear hL KT KO
 go_enter Tryz.func13,Tryz.ntmps13
 have hyw:wrap64 y=y:=by unfold wrap64;omega
 go_wp2_with fail
 have HRG:=Lib.hid (later_range HX.out (by rw [HL.out];decide))
 have HT2:=Lib.hid (fun u:Later (w.alloc (.cells cs.toArray 29))=>HT.out u.now (up_trans HB.out u.up))
 have HO2:=Lib.hid (fun u:Later (w.alloc (.cells cs.toArray 29))=>HO.out u.now (up_trans HB.out u.up))
 have HB2:=Lib.hid (fun u:Later (w.alloc (.cells cs.toArray 29))=>up_trans HB.out u.up)
 refine later_start (w:=w.alloc (.cells cs.toArray 29)) ?_
 intro u
 refine wp_region_later (by kernel_rfl) (by kernel_rfl) ?_
 repeat (first
  | (go_big_quiet_want;refine quiet_load_job _ rfl w.heap.size rfl cs HL.out HRG.out ?_;simp only [Act.put,List.setIfInBounds_toArray,List.set_cons_succ,List.set_cons_zero];go_big_quiet_on)
  | go_big_quiet_step ((first | (go_at_call 14;with_reducible exact Later.call (HT2.out _)) | (go_at_call 9;with_reducible exact Later.call (HO2.out _)))))
 refine wpQuiet_nil ?_
 rintro _ ⟨u2,rfl⟩
 go_wp2
 go_ret2
 exact ⟨rfl,HB2.out u2⟩
theorem crMost:CrMost:=fun cs j w h hf hg=>by
 have hs:=lvs_small j
 have hv:=leaves_bounds j
 have e:crpO j (leavesS j / 2)=mostN j (lvsJ j)∧isCr j (leavesS j / 2)=isMost j:=by
  by_cases hm:isMost j=true
  ·rw [most_middle j hm,hm]
   unfold isMost at hm
   rw [Bool.and_eq_true,decide_eq_true_eq,decide_eq_true_eq] at hm
   have hl:=lvs_leaves hm.1
   have h1:isCr j (leavesS j / 2)=true:=by unfold isCr;rw [Bool.and_eq_true,decide_eq_true_eq,has_iff];omega
   have h2:isCr j (((lvsJ j-1) / 2:Nat):Int)=true:=by unfold isCr;rw [Bool.and_eq_true,decide_eq_true_eq,has_iff];omega
   refine ⟨?_,h1⟩
   unfold crpO
   rw [if_pos h1,if_pos h2]
   congr 1
   unfold outM
   by_cases hb:j.n 10=1
   ·rw [if_pos hb,if_pos hb]
    split<;>split<;>omega
   ·rw [if_neg hb,if_neg hb]
  ·rw [Bool.not_eq_true] at hm
   rw [most_none j hm,hm]
   have h1:isCr j (leavesS j / 2)=false:=by
    rw [Bool.eq_false_iff]
    intro hc
    unfold isCr at hc
    rw [Bool.and_eq_true,decide_eq_true_eq,has_iff] at hc
    unfold isMost at hm
    rw [Bool.and_eq_false_iff,decide_eq_false_iff_not,decide_eq_false_iff_not] at hm
    omega
   unfold crpO
   rw [h1]
   exact ⟨rfl,rfl⟩
 have K:=crMost_core cs (leavesS j) _ (crpO j (leavesS j / 2)) (isCr j (leavesS j / 2)) w h.length ⟨hv.1,by omega⟩ rfl (fun w1 hb=>spLeaves_any cs j w1 (h.up hb) hf (hg.below hb)) (fun w1 hb=>crOf cs j (leavesS j / 2) w1 (h.up hb) hf (hg.below hb) (by unfold Int64;omega))
 rw [e.1,e.2] at K
 exact K
end Go.Proofs.YtbbjileignefbaaGreatDoor
namespace Go.Proofs.YtbbjileignefbaaGreatDoor
open Go.RowKit
set_option maxRecDepth 100000 in
theorem refBook_below (cs:List Value) (c:Int) (w:World) (hc:c<0) :
  Calls Tryz.prog 7 #[.agg cs.toArray,.int .i64 c] w fun e w'=>e=.returned (.slice none 0 0)∧Below w.heap.size w w':=by
 have HB:=Lib.hid (up_alloc (Below.refl w.heap.size w) (.cells cs.toArray 29))
 generalize cs.toArray=ca at *
 go_enter Tryz.func7,Tryz.ntmps7
 go_wp2
 go_ret
 exact ⟨rfl,HB.out⟩
set_option maxRecDepth 100000 in
theorem refBook_above (cs:List Value) (c N:Int) (w:World) (hL:cs.length=33) (hc:0≤c) (hN:N≤c)
  (KC:∀ w1,Below w.heap.size w w1→Calls Tryz.prog 16 #[.agg cs.toArray] w1 fun e w'=>e=.returned (.int .i64 N)∧Below w1.heap.size w1 w') :
  Calls Tryz.prog 7 #[.agg cs.toArray,.int .i64 c] w fun e w'=>e=.returned (.slice none 0 0)∧Below w.heap.size w w':=by
 have HX:=Lib.hid (Bx.new w 29 cs)
 have HB:=Lib.hid (up_alloc (Below.refl w.heap.size w) (.cells cs.toArray 29))
 have HL:=Lib.hid hL;have HC:=Lib.hid KC
 have z0:decide (c<0)=false:=decide_eq_false (by omega)
 clear hL KC
 go_enter Tryz.func7,Tryz.ntmps7
 go_wp2_with (refine wpList_load_job_want _ rfl rfl w.heap.size rfl cs HX.out HL.out ?_;simp only [Act.put,List.setIfInBounds_toArray,List.set_cons_succ,List.set_cons_zero])
 refine (HC.out _ HB.out).mono ?_
 rintro e w1 ⟨rfl,hb⟩
 have HB1:=Lib.hid (up_trans HB.out hb)
 clear hb
 go_wp2
 go_ret
 exact ⟨rfl,HB1.out⟩
def BookFRel (b c:Int) (l:List Sc) (K:Nat) (w:World) (v i:Value) (wr:World):Prop :=
 ∃ k:Nat,k≤K∧i=.int .i64 (k:Int)∧Hid (OwnF wr w.heap.size v (bookB b c l k))∧Hid (Below w.heap.size w wr)
def PilesFRel (K P:Nat) (w:World) (v i:Value) (wr:World):Prop :=
 ∃ n:Nat,n≤P∧i=.int .i64 (n:Int)∧Hid (OwnF wr w.heap.size v (pilesF K n))∧Hid (Below w.heap.size w wr)
def PileFRel (K n:Nat) (w:World) (v i:Value) (wr:World):Prop :=
 ∃ k:Nat,k≤K∧i=.int .i64 (k:Int)∧Hid (OwnF wr w.heap.size v (pilesF K n++rowF k n))∧Hid (Below w.heap.size w wr)
theorem OwnF.base {w:World} {base:Nat} {v:Value} {l:List (Nat×Nat)} (h:OwnF w base v l) (b:Nat) (hb:b≤base):OwnF w b v l:=by
 refine ⟨h.1,?_⟩
 rcases h.2 with h0 | ⟨g,cap,cur,rfl,h1,h2⟩
 ·exact .inl h0
 ·exact .inr ⟨g,cap,cur,rfl,by omega,h2⟩
theorem leafN_bound {n:Nat→Nat} (h:∀ i,n i≤64):∀ k,leafN n k≤k*64
 | 0=>by simp [leafN]
 | k+1=>by
  have:=leafN_bound h k
  have:=h k
  rw [leafN]
  omega
set_option maxRecDepth 100000 in
set_option maxHeartbeats 4000000 in
theorem refBook_in (cs:List Value) (b c N:Int) (f:Sc) (a:Option Addr) (fn cap:Nat) (l:List Sc) (K P:Nat) (w:World) (hL:cs.length=33) (h11:cs[11]?=some (.int .i64 b)) (h12:cs[12]?=some (.int .i64 f.c)) (h13:cs[13]?=some (.int .i64 f.r)) (h14:cs[14]?=some (.slice a fn cap))
  (c0:0≤c) (c1:c<N) (hl:l.length=K) (hK:K≤50000) (hp:∀ i,panN l i≤64) (hp1:∀ s∈l,0≤panS s) (hP:panM f.c f.r=(P:Int)) (hP2:P≤64) (R:List (Nat×Nat)) (hR1:b=3→pilesF K P=R) (hR2:b≠3→bookB b c l K=R)
  (KC:∀ w1,Below w.heap.size w w1→Calls Tryz.prog 16 #[.agg cs.toArray] w1 fun e w'=>e=.returned (.int .i64 N)∧Below w1.heap.size w1 w')
  (KO:∀ w1,Below w.heap.size w w1→Calls Tryz.prog 17 #[.agg cs.toArray] w1 fun e w'=>(∃ a cap,e=.returned (.slice a K cap)∧ScsA w' a l)∧Below w1.heap.size w1 w') :
  Calls Tryz.prog 7 #[.agg cs.toArray,.int .i64 c] w fun e w'=>∃ a cap,e=.returned (.slice a R.length cap)∧LfA w' a R∧Below w.heap.size w w':=by
 have HX:=Lib.hid (Bx.new w 29 cs)
 have HB:=Lib.hid (up_alloc (Below.refl w.heap.size w) (.cells cs.toArray 29))
 have HL:=Lib.hid hL;have HC:=Lib.hid KC;have HO:=Lib.hid KO
 have H11:=Lib.hid h11;have H12:=Lib.hid h12;have H13:=Lib.hid h13;have H14:=Lib.hid h14
 have HLL:=Lib.hid hl;have HP:=Lib.hid hp;have HP1:=Lib.hid hp1
 have HLB:=Lib.hid (fun k=>(leafN_bound hp k))
 have KP:=fun w1=>refPanels_any f.c f.r a fn cap w1
 rw [hP] at KP
 have HPF:=Lib.hid KP;have HR1:=Lib.hid hR1;have HR2:=Lib.hid hR2
 have z0:decide (c<0)=false:=decide_eq_false (by omega)
 clear hL KC KO h11 h12 h13 h14 hl hp hp1 KP hP hR1 hR2
 go_enter Tryz.func7,Tryz.ntmps7
 go_wp2_with (refine wpList_load_job_want _ rfl rfl w.heap.size rfl cs HX.out HL.out ?_;simp only [Act.put,List.setIfInBounds_toArray,List.set_cons_succ,List.set_cons_zero])
 refine (HC.out _ HB.out).mono ?_
 rintro e w1 ⟨rfl,hb⟩
 have HX1:=Lib.hid (HX.out.later (by rw [HL.out];decide) hb)
 have HB1:=Lib.hid (up_trans HB.out hb)
 clear hb
 go_wp2_with (refine wpList_load_job rfl _ rfl w.heap.size rfl cs HX1.out HL.out ?_;simp only [Act.put,List.setIfInBounds_toArray,List.set_cons_succ,List.set_cons_zero])
 refine (HO.out _ HB1.out).mono ?_
 rintro e w2 ⟨⟨a2,cap2,rfl,hS⟩,hb⟩
 have HX2:=Lib.hid (HX1.out.later (by rw [HL.out];decide) hb)
 have HB2:=Lib.hid (up_trans HB1.out hb)
 have HS:=Lib.hid hS
 clear hb hS
 go_wp2
 go_loopw [6,7] (fun v i wr=>BookFRel b c l K w2 v i wr) (fun _ i _=>K-(intOf i).toNat)
 case atStart=>exact ⟨0,by omega,by go_num,Lib.hid (OwnF.nil _ _),Lib.hid (Below.refl _ _)⟩
 case round =>
  obtain ⟨k,hk,rfl,HV,HW⟩:=hrel
  obtain ⟨av,cv,rfl,hA,hcv,hcm,ha1,ha2⟩:=HV.out.tells
  by_cases hlt:k<K
  ·obtain ⟨s,hx⟩:∃ x,l[k]?=some x:=⟨l[k]'(by rw [HLL.out];exact hlt),List.getElem?_eq_getElem _⟩
   obtain ⟨g,rfl,hc⟩:=HS.out.resolve_left (by rintro rfl;cases hx)
   obtain ⟨a1,c1',h0,h1,h2,-⟩:=hc k s hx
   have d0:=bl_cell HW.out h0;have d1:=bl_cell HW.out h1;have d2:=bl_cell HW.out h2
   have z1:(0:Int)≤(k:Int):=by omega
   have z3:(k:Int)<(K:Int):=by omega
   have hpn:panM s.c s.r=((panN l k:Nat):Int):=by
    unfold panN
    rw [List.getD_eq_getElem?_getD,hx,Option.getD_some,Int.toNat_of_nonneg (HP1.out s (List.mem_of_getElem? hx))]
    rfl
   have KP1:=fun w1=>refPanels_any s.c s.r a1 s.l.length c1' w1
   rw [hpn] at KP1
   have KL:=fun w1=>refLeavesF_any k (panN l k) w1 (by have:=HP.out k;omega)
   have hsuc:=bookB_succ b c l k
   have hn64:=HP.out k
   have hm:=HLB.out k
   rw [←bookB_length b c] at hm
   have hm2:(bookB b c l k).length≤3200000:=by omega
   obtain ⟨n,hn⟩:∃ n,panN l k=n:=⟨_,rfl⟩
   obtain ⟨B,hB⟩:∃ B,bookB b c l k=B:=⟨_,rfl⟩
   obtain ⟨m,hml⟩:∃ m,B.length=m:=⟨_,rfl⟩
   rw [hn] at KP1 KL hsuc hn64
   rw [hB] at hsuc hm2 HV hA ⊢
   rw [hml] at hsuc hm2 ⊢
   have HK1:=Lib.hid KP1;have HKL:=Lib.hid KL;have HSU:=Lib.hid hsuc;have HAv:=Lib.hid hA;have HML:=Lib.hid hml
   rw [hB,hml] at hcv
   have ha1':=Lib.hid ha1;have ha2':=Lib.hid ha2
   clear KP1 KL hsuc hA hml hx hc h0 h1 h2 hpn hm hn hB ha1 ha2
   go_wp2_with fail
   refine (HK1.out _).mono ?_
   rintro e w3 ⟨rfl,hb⟩
   have HAv3:=Lib.hid (HAv.out.up hb)
   have HW3:=Lib.hid (up_trans HW.out hb)
   clear hb d0 d1 d2
   go_wp2_with fail
   refine (HKL.out _).mono ?_
   rintro e V ⟨vo,rfl,hOo,hb⟩
   obtain ⟨ao,co,rfl,hAo,-⟩:=hOo.tells
   rw [ownF_length]
   have HAvV:=Lib.hid (HAv3.out.up hb)
   have HAo:=Lib.hid hAo
   have HWV:=Lib.hid (up_trans HW3.out hb)
   have c11:=(HX2.out.later (by rw [HL.out];decide) HWV.out).cell 11 H11.out
   clear hb hOo hAo HAv HAv3 HV
   have hVs:w2.heap.size≤V.heap.size:=HWV.out.size
   have hcv2:m≤cv:=hcv
   obtain ⟨t,ht⟩:∃ t,atM b c m=t:=⟨_,rfl⟩
   have htm:t≤m:=by rw [←ht];exact atM_le b c m
   have HSU2:=HSU.out
   rw [ht] at HSU2
   obtain ⟨r,hr⟩:∃ r,m-t=r:=⟨_,rfl⟩
   obtain ⟨cr,hcr⟩:∃ cr,cv-t=cr:=⟨_,rfl⟩
   obtain ⟨ad,hs2,hdr⟩:=slice_lft av m cv t htm hcv2 hcm ha1'.out ha2'.out
   have hs1:=fun w=>slice_lfs av m cv t htm hcv2 hcm w
   rw [hr,hcr] at hs2
   have KT1:∀ x:Int,(t:Int)=x→∀ w,(Instr.slice 32 (.slice av m cv) none (some (.int .i64 x)) none).run Tryz.prog w=.ok (.slice av t cv) w:=by rintro _ rfl;exact hs1
   have KT2:∀ x:Int,(t:Int)=x→∀ w,(Instr.slice 32 (.slice av m cv) (some (.int .i64 x)) none none).run Tryz.prog w=.ok (.slice ad r cr) w:=by rintro _ rfl;exact hs2
   have HT1:=Lib.hid (HAvV.out.take t)
   have HT2:=Lib.hid (hdr V B HAvV.out HML.out)
   have hl1:Hid ((B.take t).length=t):=Lib.hid (by rw [List.length_take,HML.out];omega)
   have hl2:Hid ((B.drop t).length=r):=Lib.hid (by rw [List.length_drop,HML.out];exact hr)
   have HSU3:=Lib.hid HSU2
   have hrm:r≤3200000:=by omega
   have htm2:t≤3200000:=by omega
   obtain ⟨vb,hvb⟩:∃ v,(b==1)=v:=⟨_,rfl⟩
   obtain ⟨vc,hvc⟩:∃ v,(c==1)=v:=⟨_,rfl⟩
   have hat:(vc=true→(t:Int)=0)∧(vc=false→vb=true→(m:Int) / 2=(t:Int)∧(m:Int).tdiv 2=(t:Int))∧(vc=false→vb=false→(t:Int)=(m:Int)):=by
    unfold atM at ht
    rw [←hvc,←hvb]
    simp only [beq_iff_eq,beq_eq_false_iff_ne]
    refine ⟨fun h=>by rw [if_pos h] at ht;omega,fun h1 h2=>?_,fun h1 h2=>by rw [if_neg h1,if_neg h2] at ht;omega⟩
    rw [if_neg h1,if_pos h2] at ht
    exact ⟨by omega,by rw [Int.tdiv_eq_ediv_of_nonneg (by omega)];omega⟩
   obtain ⟨hat1,hat2,hat3⟩:=hat
   clear hs1 hs2 hdr HSU HSU2 hr hcr ht hcv hcv2 hcm ha1' ha2' HAvV HLB HP HP1 htm
   cases vb<;>cases vc
   ·have KS1:=KT1 _ (hat3 rfl rfl);have KS2:=KT2 _ (hat3 rfl rfl)
    clear KT1 KT2 hat1 hat2 hat3
    go_wp2_with (at_builtin;refine wpList_append_lfs rfl _ _ rfl V.heap.size (.slice none 0 0) [] rfl (OwnF.nil _ _) (Nat.le_refl _) av t cv rfl (B.take t) hl1.out HT1.out ?ln1a ?_)
    case ln1a=>simp only [List.length_nil];omega
    intro v1 w5 hO5 hb5
    have HO5:=Lib.hid hO5;have HB5:=Lib.hid hb5
    have HAo5:=Lib.hid (HAo.out.up hb5);have HT5:=Lib.hid (HT2.out.up hb5)
    have hs5:=hb5.size
    clear hO5 hb5
    go_wp2_with (at_builtin;refine wpList_append_lfs rfl _ _ rfl V.heap.size v1 (B.take t) rfl HO5.out hs5 ao n co rfl (ownF k n) (ownF_length k n) HAo5.out ?ln2a ?_)
    case ln2a=>rw [hl1.out];omega
    intro v2 w6 hO6 hb6
    have HO6:=Lib.hid hO6;have HB6:=Lib.hid (HB5.out.trans hb6)
    have HT6:=Lib.hid (HT2.out.up HB6.out)
    have hs6:=HB6.out.size
    clear hO6 hb6 HT5 HAo5 HO5
    go_wp2_with (at_builtin;refine wpList_append_lfs rfl _ _ rfl V.heap.size v2 (B.take t++ownF k n) rfl HO6.out hs6 ad r cr rfl (B.drop t) hl2.out HT6.out ?ln3a ?_)
    case ln3a=>rw [List.length_append,hl1.out,ownF_length];omega
    intro v3 w7 hO7 hb7
    rw [←List.append_assoc,←HSU3.out] at hO7
    have HO7:=Lib.hid (hO7.base w2.heap.size hVs);have HB7:=Lib.hid (show Below w2.heap.size w2 w7 from up_trans HWV.out (HB6.out.trans hb7))
    clear hO7 hb7 HT6 HO6
    go_wp2
    go_roundw
    case rel=>exact ⟨k+1,by omega,by go_num,HO7,HB7⟩
    case measure=>simp [intOf];omega
   ·have KS1:=KT1 _ (hat1 rfl);have KS2:=KT2 _ (hat1 rfl)
    clear KT1 KT2 hat1 hat2 hat3
    go_wp2_with (at_builtin;refine wpList_append_lfs rfl _ _ rfl V.heap.size (.slice none 0 0) [] rfl (OwnF.nil _ _) (Nat.le_refl _) av t cv rfl (B.take t) hl1.out HT1.out ?ln1b ?_)
    case ln1b=>simp only [List.length_nil];omega
    intro v1 w5 hO5 hb5
    have HO5:=Lib.hid hO5;have HB5:=Lib.hid hb5
    have HAo5:=Lib.hid (HAo.out.up hb5);have HT5:=Lib.hid (HT2.out.up hb5)
    have hs5:=hb5.size
    clear hO5 hb5
    go_wp2_with (at_builtin;refine wpList_append_lfs rfl _ _ rfl V.heap.size v1 (B.take t) rfl HO5.out hs5 ao n co rfl (ownF k n) (ownF_length k n) HAo5.out ?ln2b ?_)
    case ln2b=>rw [hl1.out];omega
    intro v2 w6 hO6 hb6
    have HO6:=Lib.hid hO6;have HB6:=Lib.hid (HB5.out.trans hb6)
    have HT6:=Lib.hid (HT2.out.up HB6.out)
    have hs6:=HB6.out.size
    clear hO6 hb6 HT5 HAo5 HO5
    go_wp2_with (at_builtin;refine wpList_append_lfs rfl _ _ rfl V.heap.size v2 (B.take t++ownF k n) rfl HO6.out hs6 ad r cr rfl (B.drop t) hl2.out HT6.out ?ln3b ?_)
    case ln3b=>rw [List.length_append,hl1.out,ownF_length];omega
    intro v3 w7 hO7 hb7
    rw [←List.append_assoc,←HSU3.out] at hO7
    have HO7:=Lib.hid (hO7.base w2.heap.size hVs);have HB7:=Lib.hid (show Below w2.heap.size w2 w7 from up_trans HWV.out (HB6.out.trans hb7))
    clear hO7 hb7 HT6 HO6
    go_wp2
    go_roundw
    case rel=>exact ⟨k+1,by omega,by go_num,HO7,HB7⟩
    case measure=>simp [intOf];omega
   ·obtain ⟨hq1,hq2⟩:=hat2 rfl rfl
    have KS1:=KT1 _ rfl;have KS2:=KT2 _ rfl
    clear KT1 KT2 hat1 hat2 hat3
    go_wp2_with (at_builtin;refine wpList_append_lfs rfl _ _ rfl V.heap.size (.slice none 0 0) [] rfl (OwnF.nil _ _) (Nat.le_refl _) av t cv rfl (B.take t) hl1.out HT1.out ?ln1c ?_)
    case ln1c=>simp only [List.length_nil];omega
    intro v1 w5 hO5 hb5
    have HO5:=Lib.hid hO5;have HB5:=Lib.hid hb5
    have HAo5:=Lib.hid (HAo.out.up hb5);have HT5:=Lib.hid (HT2.out.up hb5)
    have hs5:=hb5.size
    clear hO5 hb5
    go_wp2_with (at_builtin;refine wpList_append_lfs rfl _ _ rfl V.heap.size v1 (B.take t) rfl HO5.out hs5 ao n co rfl (ownF k n) (ownF_length k n) HAo5.out ?ln2c ?_)
    case ln2c=>rw [hl1.out];omega
    intro v2 w6 hO6 hb6
    have HO6:=Lib.hid hO6;have HB6:=Lib.hid (HB5.out.trans hb6)
    have HT6:=Lib.hid (HT2.out.up HB6.out)
    have hs6:=HB6.out.size
    clear hO6 hb6 HT5 HAo5 HO5
    go_wp2_with (at_builtin;refine wpList_append_lfs rfl _ _ rfl V.heap.size v2 (B.take t++ownF k n) rfl HO6.out hs6 ad r cr rfl (B.drop t) hl2.out HT6.out ?ln3c ?_)
    case ln3c=>rw [List.length_append,hl1.out,ownF_length];omega
    intro v3 w7 hO7 hb7
    rw [←List.append_assoc,←HSU3.out] at hO7
    have HO7:=Lib.hid (hO7.base w2.heap.size hVs);have HB7:=Lib.hid (show Below w2.heap.size w2 w7 from up_trans HWV.out (HB6.out.trans hb7))
    clear hO7 hb7 HT6 HO6
    go_wp2
    go_roundw
    case rel=>exact ⟨k+1,by omega,by go_num,HO7,HB7⟩
    case measure=>simp [intOf];omega
   ·have KS1:=KT1 _ (hat1 rfl);have KS2:=KT2 _ (hat1 rfl)
    clear KT1 KT2 hat1 hat2 hat3
    go_wp2_with (at_builtin;refine wpList_append_lfs rfl _ _ rfl V.heap.size (.slice none 0 0) [] rfl (OwnF.nil _ _) (Nat.le_refl _) av t cv rfl (B.take t) hl1.out HT1.out ?ln1d ?_)
    case ln1d=>simp only [List.length_nil];omega
    intro v1 w5 hO5 hb5
    have HO5:=Lib.hid hO5;have HB5:=Lib.hid hb5
    have HAo5:=Lib.hid (HAo.out.up hb5);have HT5:=Lib.hid (HT2.out.up hb5)
    have hs5:=hb5.size
    clear hO5 hb5
    go_wp2_with (at_builtin;refine wpList_append_lfs rfl _ _ rfl V.heap.size v1 (B.take t) rfl HO5.out hs5 ao n co rfl (ownF k n) (ownF_length k n) HAo5.out ?ln2d ?_)
    case ln2d=>rw [hl1.out];omega
    intro v2 w6 hO6 hb6
    have HO6:=Lib.hid hO6;have HB6:=Lib.hid (HB5.out.trans hb6)
    have HT6:=Lib.hid (HT2.out.up HB6.out)
    have hs6:=HB6.out.size
    clear hO6 hb6 HT5 HAo5 HO5
    go_wp2_with (at_builtin;refine wpList_append_lfs rfl _ _ rfl V.heap.size v2 (B.take t++ownF k n) rfl HO6.out hs6 ad r cr rfl (B.drop t) hl2.out HT6.out ?ln3d ?_)
    case ln3d=>rw [List.length_append,hl1.out,ownF_length];omega
    intro v3 w7 hO7 hb7
    rw [←List.append_assoc,←HSU3.out] at hO7
    have HO7:=Lib.hid (hO7.base w2.heap.size hVs);have HB7:=Lib.hid (show Below w2.heap.size w2 w7 from up_trans HWV.out (HB6.out.trans hb7))
    clear hO7 hb7 HT6 HO6
    go_wp2
    go_roundw
    case rel=>exact ⟨k+1,by omega,by go_num,HO7,HB7⟩
    case measure=>simp [intOf];omega
  ·obtain rfl:k=K:=by omega
   have X:=HX2.out.later (by rw [HL.out];decide) HW.out
   have c11:=X.cell 11 H11.out
   by_cases hb3:b=3
   ·subst hb3
    have hR:=HR1.out rfl
    clear HR2
    obtain ⟨V,hV⟩:∃ V,V=wr:=⟨_,rfl⟩
    subst hV
    have HXV:=Lib.hid X
    have HBV:=Lib.hid (up_trans HB2.out HW.out)
    clear X HV hA HS HLL HP HP1 HLB HX HX1 HX2
    go_wp2
    clear c11
    go_loopw [11,12] (fun v i wr=>PilesFRel k P V v i wr) (fun _ i _=>P-(intOf i).toNat)
    case atStart=>exact ⟨0,by omega,by go_num,Lib.hid (OwnF.nil _ _),Lib.hid (Below.refl _ _)⟩
    case round =>
     obtain ⟨n,hn,rfl,HO1,HW1⟩:=hrel
     have X:=HXV.out.later (by rw [HL.out];decide) HW1.out
     have c12:=X.cell 12 H12.out;have c13:=X.cell 13 H13.out;have c14:=X.cell 14 H14.out
     clear X
     by_cases hlt2:n<P
     ·go_wp2_with fail
      refine (HPF.out _).mono ?_
      rintro e w3 ⟨rfl,hb⟩
      have HO3:=Lib.hid (HO1.out.up hb)
      have HW3:=Lib.hid (up_trans HW1.out hb)
      clear hb c12 c13 c14 HO1
      go_wp2
      go_loopw [11,13] (fun v i wr=>PileFRel k n V v i wr) (fun _ i _=>k-(intOf i).toNat)
      case atStart=>exact ⟨0,by omega,by go_num,Lib.hid (by simpa [rowF] using HO3.out),HW3⟩
      case round =>
       obtain ⟨q,hq,rfl,HO4,HW4⟩:=hrel
       obtain ⟨aq,cq,rfl,-⟩:=HO4.out.tells
       have hlen:(pilesF k n++rowF q n).length≤10000000:=by
        rw [List.length_append,pilesF_length,rowF_length]
        have:n*k≤64*50000:=Nat.mul_le_mul (by omega) hK
        omega
       have HLs:=Lib.hid (show (pilesF k n++rowF q n)++[(q,n)]=pilesF k n++rowF (q+1) n by rw [rowF_succ,List.append_assoc])
       have HLk:=Lib.hid (show q=k→pilesF k n++rowF q n=pilesF k (n+1) by rintro rfl;rfl)
       obtain ⟨Lq,hLq⟩:∃ L,pilesF k n++rowF q n=L:=⟨_,rfl⟩
       rw [hLq] at hlen HO4 HLs HLk ⊢
       clear hLq
       by_cases hlt3:q<k
       ·have hbs:V.heap.size≤wr.heap.size:=HW4.out.size
        go_wp2_with (at_builtin;refine wpList_append_lf rfl _ _ rfl V.heap.size (.slice aq Lq.length cq) Lq rfl HO4.out hbs q n wr.heap.size rfl rfl ?lnp ?_)
        case lnp=>exact hlen
        intro g2 cp2 w5 hO5 hb5
        rw [HLs.out] at hO5
        have HO5:=Lib.hid hO5
        have HW5:=Lib.hid (show Below V.heap.size V w5 from HW4.out.trans hb5)
        clear hO5 hb5
        go_wp2
        go_roundw
        case rel=>exact ⟨q+1,by omega,by go_num,HO5,HW5⟩
        case measure=>simp [intOf];omega
       ·obtain rfl:q=k:=by omega
        have HO5:=Lib.hid (show OwnF wr V.heap.size (.slice aq Lq.length cq) (pilesF q (n+1)) from HLk.out rfl ▸ HO4.out)
        go_wp2
        go_roundw
        case rel=>exact ⟨n+1,by omega,by go_num,HO5,HW4⟩
        case measure=>simp [intOf];omega
     ·obtain rfl:n=P:=by omega
      obtain ⟨aq,cq,rfl,hAq,-⟩:=HO1.out.tells
      rw [hR] at hAq ⊢
      have HAq:=Lib.hid hAq
      clear hAq HO1
      go_wp2_with fail
      refine (HPF.out _).mono ?_
      rintro e w3 ⟨rfl,hb⟩
      have HA3:=Lib.hid (HAq.out.up hb)
      have HB3:=Lib.hid (up_trans HBV.out (up_trans HW1.out hb))
      clear hb c12 c13 c14
      go_wp2
      exact bodyPost_ret (v:=.slice aq R.length cq) (by simp [results,Tryz.results7,go_sem]) rfl ⟨_,_,rfl,HA3.out,HB3.out⟩
   ·rw [HR2.out hb3] at hA ⊢
    have z3:(b != 3)=true:=by simpa using hb3
    have HA:=Lib.hid hA
    have HBV:=Lib.hid (up_trans HB2.out HW.out)
    clear X HV hA HS HLL HP HP1 HLB
    go_wp2
    exact bodyPost_ret (v:=.slice av R.length cv) (by simp [results,Tryz.results7,go_sem]) rfl ⟨_,_,rfl,HA.out,HBV.out⟩
theorem refBook_any (cs:List Value) (j:Jb) (c:Int) (w:World) (h:JobA w cs j) (hf:WfF j) (hl:j.f.l.length≤1000000) :
  Calls Tryz.prog 7 #[.agg cs.toArray,.int .i64 c] w fun e w'=>∃ a cap,e=.returned (.slice a (bookM j c).length cap)∧LfA w' a (bookM j c)∧Below w.heap.size w w':=by
 obtain ⟨a,cp,a',c',h12,h13,h14,h15,hI,hT⟩:=h.cells
 have KC:=fun w1 (hb:Below w.heap.size w w1)=>refCopies_any cs j w1 (h.up hb) hf hl
 by_cases hc:c<0
 ·rw [bookM_none (.inl hc)]
  exact (refBook_below cs c w hc).mono fun e w' ⟨he,hb⟩=>⟨none,0,he,.inl rfl,hb⟩
 by_cases hN:copM j≤c
 ·rw [bookM_none (.inr hN)]
  exact (refBook_above cs c (copM j) w h.length (by omega) hN KC).mono fun e w' ⟨he,hb⟩=>⟨none,0,he,.inl rfl,hb⟩
 have hno:¬ (c<0∨copM j≤c):=by omega
 obtain ⟨hm,-⟩:=cop_may hno
 obtain ⟨-,hp,-⟩:=may_facts hm
 obtain ⟨p1,-⟩:=part_facts hp
 refine refBook_in cs (j.n 10) c (copM j) j.f a _ cp (ofM j) _ (panJ j) w h.length (h.num (k:=10) (by decide)) h12 h13 h14 (by omega) (by omega) rfl (of_small j) (panN_small j) (fun s hs=>by have:=of_scheme j s hs;omega)
  (by unfold panJ;rw [Int.toNat_of_nonneg (by omega)];rfl) (by unfold panJ;omega) (bookM j c) (fun h3=>?_) (fun h3=>?_) KC
  (fun w1 hb=>(refSpOf_any cs j w1 (h.up hb) hf hl).mono fun e w' ⟨a,cap,he,hs,hb⟩=>⟨⟨a,cap,he,hs⟩,hb⟩)
 ·unfold bookM
  rw [if_neg hno,if_pos h3]
 ·unfold bookM
  rw [if_neg hno,if_neg h3]
def MostRel (M:Nat→Int) (T:Nat) (w:World) (m i:Value) (wr:World):Prop:=∃ k:Nat,k≤T∧i=.int .i64 (k:Int)∧m=.int .i64 (M k)∧Hid (Below w.heap.size w wr)
set_option maxRecDepth 100000 in
set_option maxHeartbeats 4000000 in
theorem ctells_core (cs:List Value) (x F m:Int) (T:Nat) (cv ov M:Nat→Int) (co t f u v is:Bool) (S:Prop) (w:World) (hL:cs.length=33) (hT:T≤3200000)
  (e1:decide (x<0)=u) (e2:decide ((T:Int)≤x)=v) (e3:decide (0<T)=t) (e4:decide (F<0)=f) (hM0:M 0=0) (hM:∀ k,M (k+1)=if M k<cv k then cv k else M k)
  (hno:(u || v)=true→m=0∧is=false)
  (KA:∀ w1,Below w.heap.size w w1→Calls Tryz.prog 5 #[] w1 fun e w'=>e=.returned (.bool true)∧Below w1.heap.size w1 w')
  (KG:∀ w1,Below w.heap.size w w1→Calls Tryz.prog 6 #[.agg cs.toArray] w1 fun e w'=>∃ b,e=.returned (.bool b)∧(b=true→S)∧Below w1.heap.size w1 w')
  (KB:S→∀ w1,Below w.heap.size w w1→Calls Tryz.prog 7 #[.agg cs.toArray,.int .i64 0] w1 fun e w'=>(∃ a cap,e=.returned (.slice a T cap))∧Below w1.heap.size w1 w')
  (KF:∀ w1,Calls Tryz.prog 8 #[.agg cs.toArray] w1 fun e w'=>e=.returned (.int .i64 F)∧Below w1.heap.size w1 w')
  (K0:∀ i:Nat,i<T→∀ w1,Below w.heap.size w w1→Calls Tryz.prog 9 #[.agg cs.toArray,.int .i64 (i:Int)] w1 fun e w'=>e=.returned (.tuple #[.int .i64 (cv i),.bool co])∧Below w1.heap.size w1 w')
  (K1:∀ i:Nat,i<T→∀ w1,Below w.heap.size w w1→Calls Tryz.prog 10 #[.agg cs.toArray,.int .i64 (i:Int),.int .i64 (T:Int)] w1 fun e w'=>e=.returned (.tuple #[.int .i64 (cv i),.bool co])∧Below w1.heap.size w1 w')
  (K2:∀ i:Nat,i<T→∀ w1,Below w.heap.size w w1→Calls Tryz.prog 11 #[.agg cs.toArray,.int .i64 (i:Int)] w1 fun e w'=>e=.returned (.int .i64 (ov i))∧Below w1.heap.size w1 w')
  (K3:∀ i:Nat,i<T→∀ w1,Calls Tryz.prog 12 #[.agg cs.toArray,.int .i64 (i:Int),.int .i64 (T:Int)] w1 fun e w'=>e=.returned (.int .i64 (ov i))∧Below w1.heap.size w1 w')
  (K4:∀ w1,Below w.heap.size w w1→Calls Tryz.prog 13 #[.agg cs.toArray] w1 fun e w'=>e=.returned (.tuple #[.int .i64 (M T),.bool (t&&f)])∧Below w1.heap.size w1 w')
  (K5:∀ w1,Below w.heap.size w w1→Calls Tryz.prog 9 #[.agg cs.toArray,.int .i64 x] w1 fun e w'=>e=.returned (.tuple #[.int .i64 m,.bool is])∧Below w1.heap.size w1 w')
  (K6:(u || v)=true→∀ w1,Below w.heap.size w w1→Calls Tryz.prog 11 #[.agg cs.toArray,.int .i64 x] w1 fun e w'=>e=.returned (.int .i64 0)∧Below w1.heap.size w1 w') :
  Calls Tryz.prog 3 #[.agg cs.toArray,.int .i64 x] w fun e w'=>e=.returned (.bool true)∧Below w.heap.size w w':=by
 have HX:=Lib.hid (Bx.new w 29 cs)
 have HB:=Lib.hid (up_alloc (Below.refl w.heap.size w) (.cells cs.toArray 29))
 have HL:=Lib.hid hL
 have HA:=Lib.hid KA;have HG:=Lib.hid KG;have HKB:=Lib.hid KB;have HF:=Lib.hid KF;have H0:=Lib.hid K0;have H1:=Lib.hid K1;have H2:=Lib.hid K2;have H3:=Lib.hid K3;have H4:=Lib.hid K4;have H5:=Lib.hid K5;have H6:=Lib.hid K6
 have HM0:=Lib.hid hM0;have HM:=Lib.hid hM;have HN:=Lib.hid hno
 have e3':decide ((0:Int)<(T:Int))=t:=by rw [←e3,Bool.eq_iff_iff];simp
 clear hL KA KG KB KF K0 K1 K2 K3 K4 K5 K6 hM0 hM hno
 go_enter Tryz.func3,Tryz.ntmps3
 go_wp2_with fail
 refine (HA.out _ HB.out).mono ?_
 rintro e w1 ⟨rfl,hb⟩
 have HX1:=Lib.hid (HX.out.later (by rw [HL.out];decide) hb)
 have HB1:=Lib.hid (up_trans HB.out hb)
 clear hb
 go_wp2_with (refine wpList_load_job rfl _ rfl w.heap.size rfl cs HX1.out HL.out ?_;simp only [Act.put,List.setIfInBounds_toArray,List.set_cons_succ,List.set_cons_zero])
 refine (HG.out _ HB1.out).mono ?_
 rintro e w2 ⟨b,rfl,hS,hb⟩
 have HX2:=Lib.hid (HX1.out.later (by rw [HL.out];decide) hb)
 have HB2:=Lib.hid (up_trans HB1.out hb)
 clear hb
 cases b
 ·clear hS e1 e2 e3 e3' e4
  go_wp2
  go_ret
  exact ⟨rfl,HB2.out⟩
 have KB:=HKB.out (hS rfl)
 have HKB2:=Lib.hid KB
 clear hS KB HKB
 go_wp2_with (refine wpList_load_job rfl _ rfl w.heap.size rfl cs HX2.out HL.out ?_;simp only [Act.put,List.setIfInBounds_toArray,List.set_cons_succ,List.set_cons_zero])
 refine (HKB2.out _ HB2.out).mono ?_
 rintro e w3 ⟨⟨a3,cp3,rfl⟩,hb⟩
 have HX3:=Lib.hid (HX2.out.later (by rw [HL.out];decide) hb)
 have HB3:=Lib.hid (up_trans HB2.out hb)
 clear hb HX HX1 HX2 HB HB1 HB2 HKB2
 cases t
 ·have HX5:=HX3;have HB5:=HB3
  obtain ⟨w5,hw5⟩:∃ w5,w5=w3:=⟨_,rfl⟩
  subst hw5
  have hz:(false&&f)=false:=rfl
  rw [hz] at H4
  go_wp2
  go_loopw [6,8] (fun m i wr=>MostRel M T w5 m i wr) (fun _ i _=>T-(intOf i).toNat)
  case atStart=>exact ⟨0,by omega,by go_num,by rw [HM0.out],Lib.hid (Below.refl _ _)⟩
  case round =>
   obtain ⟨k,hk,rfl,rfl,HW⟩:=hrel
   have HXr:=Lib.hid (HX5.out.later (by rw [HL.out];decide) HW.out)
   have HBr:=Lib.hid (up_trans HB5.out HW.out)
   by_cases hlt:k<T
   ·have K0:=H0.out k hlt;have K1:=H1.out k hlt;have K2:=H2.out k hlt;have K3:=H3.out k hlt
    have hMk:=HM.out k
    generalize cv k=q at *
    generalize ov k=o at *
    obtain ⟨y',hy'⟩:∃ y',M (k+1)=y':=⟨_,rfl⟩
    rw [hy'] at hMk
    have HY:=Lib.hid hy'
    clear hy'
    generalize M k=y at *
    have HK0:=Lib.hid K0;have HK1:=Lib.hid K1;have HK2:=Lib.hid K2;have HK3:=Lib.hid K3;have HMk:=Lib.hid hMk
    clear K0 K1 K2 K3 hMk
    go_wp2_with (refine wpList_load_job rfl _ rfl w.heap.size rfl cs HXr.out HL.out ?_;simp only [Act.put,List.setIfInBounds_toArray,List.set_cons_succ,List.set_cons_zero])
    refine (HK0.out _ HBr.out).mono ?_
    rintro e w6 ⟨rfl,hb⟩
    have HX6:=Lib.hid (HXr.out.later (by rw [HL.out];decide) hb)
    have HB6:=Lib.hid (up_trans HBr.out hb)
    have HW6:=Lib.hid (up_trans HW.out hb)
    clear hb
    go_wp2_with (refine wpList_load_job rfl _ rfl w.heap.size rfl cs HX6.out HL.out ?_;simp only [Act.put,List.setIfInBounds_toArray,List.set_cons_succ,List.set_cons_zero])
    refine (HK1.out _ HB6.out).mono ?_
    rintro e w7 ⟨rfl,hb⟩
    have HX7:=Lib.hid (HX6.out.later (by rw [HL.out];decide) hb)
    have HB7:=Lib.hid (up_trans HB6.out hb)
    have HW7:=Lib.hid (up_trans HW6.out hb)
    have HRG:=Lib.hid (later_range HX7.out (by rw [HL.out];decide))
    clear hb
    go_wp2_with fail
    refine later_start (w:=w7) ?_
    intro v0
    refine wp_region_later (by kernel_rfl) (by kernel_rfl) ?_
    repeat (first
     | (go_big_quiet_want;refine quiet_load_job _ rfl w.heap.size rfl cs HL.out HRG.out ?_;simp only [Act.put,List.setIfInBounds_toArray,List.set_cons_succ,List.set_cons_zero];go_big_quiet_on)
     | go_big_quiet_step ((first | (go_at_call 11;with_reducible exact Later.call (HK2.out _ (up_trans HB7.out (Later.up _)))) | (go_at_call 12;with_reducible exact Later.call (HK3.out _)))))
    refine wpQuiet_nil ?_
    rintro _ ⟨v2,rfl⟩
    have HW8:=Lib.hid (up_trans HW7.out v2.up)
    obtain ⟨w8,hw8⟩:∃ w8,v2.now=w8:=⟨_,rfl⟩
    rw [hw8] at HW8 ⊢
    clear hw8 HRG
    by_cases hy:y<q
    ·have hm:=HMk.out
     rw [if_pos hy] at hm
     have HMM:=Lib.hid hm
     clear hm
     go_wp2
     go_roundw
     case rel=>exact ⟨k+1,by omega,by go_num,by rw [HY.out,HMM.out],HW8⟩
     case measure=>simp [intOf];omega
    ·have hm:=HMk.out
     rw [if_neg hy] at hm
     have HMM:=Lib.hid hm
     clear hm
     go_wp2
     go_roundw
     case rel=>exact ⟨k+1,by omega,by go_num,by rw [HY.out,HMM.out],HW8⟩
     case measure=>simp [intOf];omega
   ·have hkT:k=T:=by omega
    subst hkT
    generalize M k=y at *
    go_wp2_with (refine wpList_load_job rfl _ rfl w.heap.size rfl cs HXr.out HL.out ?_;simp only [Act.put,List.setIfInBounds_toArray,List.set_cons_succ,List.set_cons_zero])
    refine (H4.out _ HBr.out).mono ?_
    rintro e w6 ⟨rfl,hb⟩
    have HX6:=Lib.hid (HXr.out.later (by rw [HL.out];decide) hb)
    have HB6:=Lib.hid (up_trans HBr.out hb)
    clear hb
    go_wp2_with (refine wpList_load_job rfl _ rfl w.heap.size rfl cs HX6.out HL.out ?_;simp only [Act.put,List.setIfInBounds_toArray,List.set_cons_succ,List.set_cons_zero])
    refine (H5.out _ HB6.out).mono ?_
    rintro e w7 ⟨rfl,hb⟩
    have HX7:=Lib.hid (HX6.out.later (by rw [HL.out];decide) hb)
    have HB7:=Lib.hid (up_trans HB6.out hb)
    clear hb
    cases u
    ·cases v
     ·clear HN H6
      go_wp2
      go_ret
      exact ⟨by simp,HB7.out⟩
     ·obtain ⟨rfl,rfl⟩:=HN.out rfl
      have K6:=Lib.hid (H6.out rfl)
      clear HN H6
      go_wp2_with (refine wpList_load_job_want _ rfl rfl w.heap.size rfl cs HX7.out HL.out ?_;simp only [Act.put,List.setIfInBounds_toArray,List.set_cons_succ,List.set_cons_zero])
      refine (K6.out _ HB7.out).mono ?_
      rintro e w8 ⟨rfl,hb⟩
      have HB8:=Lib.hid (up_trans HB7.out hb)
      clear hb
      go_wp2
      go_ret
      exact ⟨by simp,HB8.out⟩
    ·obtain ⟨rfl,rfl⟩:=HN.out rfl
     have K6:=Lib.hid (H6.out rfl)
     clear HN H6 e2
     go_wp2_with (refine wpList_load_job_want _ rfl rfl w.heap.size rfl cs HX7.out HL.out ?_;simp only [Act.put,List.setIfInBounds_toArray,List.set_cons_succ,List.set_cons_zero])
     refine (K6.out _ HB7.out).mono ?_
     rintro e w8 ⟨rfl,hb⟩
     have HB8:=Lib.hid (up_trans HB7.out hb)
     clear hb
     go_wp2
     go_ret
     exact ⟨by simp,HB8.out⟩
 ·go_wp2_with (refine wpList_load_job_want _ rfl rfl w.heap.size rfl cs HX3.out HL.out ?_;simp only [Act.put,List.setIfInBounds_toArray,List.set_cons_succ,List.set_cons_zero])
  refine (HF.out _).mono ?_
  rintro e w5 ⟨rfl,hb⟩
  have HX5:=Lib.hid (HX3.out.later (by rw [HL.out];decide) hb)
  have HB5:=Lib.hid (up_trans HB3.out hb)
  clear hb
  have hz:(true&&f)=f:=by simp
  rw [hz] at H4
  go_wp2
  go_loopw [6,8] (fun m i wr=>MostRel M T w5 m i wr) (fun _ i _=>T-(intOf i).toNat)
  case atStart=>exact ⟨0,by omega,by go_num,by rw [HM0.out],Lib.hid (Below.refl _ _)⟩
  case round =>
   obtain ⟨k,hk,rfl,rfl,HW⟩:=hrel
   have HXr:=Lib.hid (HX5.out.later (by rw [HL.out];decide) HW.out)
   have HBr:=Lib.hid (up_trans HB5.out HW.out)
   by_cases hlt:k<T
   ·have K0:=H0.out k hlt;have K1:=H1.out k hlt;have K2:=H2.out k hlt;have K3:=H3.out k hlt
    have hMk:=HM.out k
    generalize cv k=q at *
    generalize ov k=o at *
    obtain ⟨y',hy'⟩:∃ y',M (k+1)=y':=⟨_,rfl⟩
    rw [hy'] at hMk
    have HY:=Lib.hid hy'
    clear hy'
    generalize M k=y at *
    have HK0:=Lib.hid K0;have HK1:=Lib.hid K1;have HK2:=Lib.hid K2;have HK3:=Lib.hid K3;have HMk:=Lib.hid hMk
    clear K0 K1 K2 K3 hMk
    go_wp2_with (refine wpList_load_job rfl _ rfl w.heap.size rfl cs HXr.out HL.out ?_;simp only [Act.put,List.setIfInBounds_toArray,List.set_cons_succ,List.set_cons_zero])
    refine (HK0.out _ HBr.out).mono ?_
    rintro e w6 ⟨rfl,hb⟩
    have HX6:=Lib.hid (HXr.out.later (by rw [HL.out];decide) hb)
    have HB6:=Lib.hid (up_trans HBr.out hb)
    have HW6:=Lib.hid (up_trans HW.out hb)
    clear hb
    go_wp2_with (refine wpList_load_job rfl _ rfl w.heap.size rfl cs HX6.out HL.out ?_;simp only [Act.put,List.setIfInBounds_toArray,List.set_cons_succ,List.set_cons_zero])
    refine (HK1.out _ HB6.out).mono ?_
    rintro e w7 ⟨rfl,hb⟩
    have HX7:=Lib.hid (HX6.out.later (by rw [HL.out];decide) hb)
    have HB7:=Lib.hid (up_trans HB6.out hb)
    have HW7:=Lib.hid (up_trans HW6.out hb)
    have HRG:=Lib.hid (later_range HX7.out (by rw [HL.out];decide))
    clear hb
    go_wp2_with fail
    refine later_start (w:=w7) ?_
    intro v0
    refine wp_region_later (by kernel_rfl) (by kernel_rfl) ?_
    repeat (first
     | (go_big_quiet_want;refine quiet_load_job _ rfl w.heap.size rfl cs HL.out HRG.out ?_;simp only [Act.put,List.setIfInBounds_toArray,List.set_cons_succ,List.set_cons_zero];go_big_quiet_on)
     | go_big_quiet_step ((first | (go_at_call 11;with_reducible exact Later.call (HK2.out _ (up_trans HB7.out (Later.up _)))) | (go_at_call 12;with_reducible exact Later.call (HK3.out _)))))
    refine wpQuiet_nil ?_
    rintro _ ⟨v2,rfl⟩
    have HW8:=Lib.hid (up_trans HW7.out v2.up)
    obtain ⟨w8,hw8⟩:∃ w8,v2.now=w8:=⟨_,rfl⟩
    rw [hw8] at HW8 ⊢
    clear hw8 HRG
    by_cases hy:y<q
    ·have hm:=HMk.out
     rw [if_pos hy] at hm
     have HMM:=Lib.hid hm
     clear hm
     go_wp2
     go_roundw
     case rel=>exact ⟨k+1,by omega,by go_num,by rw [HY.out,HMM.out],HW8⟩
     case measure=>simp [intOf];omega
    ·have hm:=HMk.out
     rw [if_neg hy] at hm
     have HMM:=Lib.hid hm
     clear hm
     go_wp2
     go_roundw
     case rel=>exact ⟨k+1,by omega,by go_num,by rw [HY.out,HMM.out],HW8⟩
     case measure=>simp [intOf];omega
   ·have hkT:k=T:=by omega
    subst hkT
    generalize M k=y at *
    go_wp2_with (refine wpList_load_job rfl _ rfl w.heap.size rfl cs HXr.out HL.out ?_;simp only [Act.put,List.setIfInBounds_toArray,List.set_cons_succ,List.set_cons_zero])
    refine (H4.out _ HBr.out).mono ?_
    rintro e w6 ⟨rfl,hb⟩
    have HX6:=Lib.hid (HXr.out.later (by rw [HL.out];decide) hb)
    have HB6:=Lib.hid (up_trans HBr.out hb)
    clear hb
    go_wp2_with (refine wpList_load_job rfl _ rfl w.heap.size rfl cs HX6.out HL.out ?_;simp only [Act.put,List.setIfInBounds_toArray,List.set_cons_succ,List.set_cons_zero])
    refine (H5.out _ HB6.out).mono ?_
    rintro e w7 ⟨rfl,hb⟩
    have HX7:=Lib.hid (HX6.out.later (by rw [HL.out];decide) hb)
    have HB7:=Lib.hid (up_trans HB6.out hb)
    clear hb
    cases u
    ·cases v
     ·clear HN H6
      go_wp2
      go_ret
      exact ⟨by simp,HB7.out⟩
     ·obtain ⟨rfl,rfl⟩:=HN.out rfl
      have K6:=Lib.hid (H6.out rfl)
      clear HN H6
      go_wp2_with (refine wpList_load_job_want _ rfl rfl w.heap.size rfl cs HX7.out HL.out ?_;simp only [Act.put,List.setIfInBounds_toArray,List.set_cons_succ,List.set_cons_zero])
      refine (K6.out _ HB7.out).mono ?_
      rintro e w8 ⟨rfl,hb⟩
      have HB8:=Lib.hid (up_trans HB7.out hb)
      clear hb
      go_wp2
      go_ret
      exact ⟨by simp,HB8.out⟩
    ·obtain ⟨rfl,rfl⟩:=HN.out rfl
     have K6:=Lib.hid (H6.out rfl)
     clear HN H6 e2
     go_wp2_with (refine wpList_load_job_want _ rfl rfl w.heap.size rfl cs HX7.out HL.out ?_;simp only [Act.put,List.setIfInBounds_toArray,List.set_cons_succ,List.set_cons_zero])
     refine (K6.out _ HB7.out).mono ?_
     rintro e w8 ⟨rfl,hb⟩
     have HB8:=Lib.hid (up_trans HB7.out hb)
     clear hb
     go_wp2
     go_ret
     exact ⟨by simp,HB8.out⟩
theorem walkCreepTellsK (KO:CrOutside) (KF:CrOf) (KM:CrMost) (cs:List Value) (j:Jb) (x:Int) (w:World) (h:(JobA w cs j∧j.t.length≤maxLen∧∀ p∈j.ls,p.length≤maxLen)∧(∀ i,-9223372036854775808≤j.n i∧j.n i≤9223372036854775807)∧j.f.c≤9223372036854775807∧j.f.r≤9223372036854775807) (hx:(Lit.int .i64 x).wf=true) (hg:GoodM w) :
  Calls Tryz.prog 3 #[.agg cs.toArray,.int .i64 x] w fun e w'=>e=.returned (.bool true)∧Below w.heap.size w w':=by
 obtain ⟨⟨h,ht,hz⟩,-,hf⟩:=h
 have hs:=lvs_small j
 have hcr:∀ i:Nat,i<lvsJ j→isCr j (i:Int)=decide (firstJ j.n<0):=fun i hi=>by
  unfold isCr
  rw [has_iff.2 ⟨by omega,by omega⟩,Bool.and_true]
 have hou:∀ i:Nat,i<lvsJ j→outO j (i:Int)=outM (j.n 10) i (lvsJ j):=fun i hi=>by
  unfold outO
  rw [if_pos (has_iff.2 ⟨by omega,by omega⟩)]
 have hno:(decide (x<0) || decide ((lvsJ j:Int)≤x))=true→hasL j x=false:=fun hu=>by
  rw [←Bool.not_eq_true,has_iff]
  simp only [Bool.or_eq_true,decide_eq_true_eq] at hu
  omega
 refine ctells_core cs x (firstJ j.n) (crpO j x) (lvsJ j) (fun i=>crpO j (i:Int)) (fun i=>outO j (i:Int)) (mostN j) (decide (firstJ j.n<0)) _ _ _ _ (isCr j x) (j.f.l.length≤1000000) w h.length hs rfl rfl rfl rfl rfl (fun k=>rfl) (fun hu=>?_) (fun w1 hb=>crAlive_any KO KF KM w1 (hg.below hb))
  (fun w1 hb=>(refLight_any cs j w1 (h.up hb) ht hz).mono fun e w' ⟨b,he,hs,hb2⟩=>⟨b,he,fun hb=>by have:=(hs hb).2.2.1;omega,hb2⟩)
  (fun hl w1 hb=>(refBook_any cs j 0 w1 (h.up hb) hf hl).mono fun e w' ⟨a,cap,he,_,hb⟩=>⟨⟨a,cap,he⟩,hb⟩) (fun w1=>refFirst_any cs j.n w1 h.length fun k hk=>h.num hk)
  (fun i hi w1 hb=>?_) (fun i hi w1 hb=>?_) (fun i hi w1 hb=>KO cs j i w1 (h.up hb) hf (hg.below hb) (int64_nat (by omega))) (fun i hi w1=>?_) (fun w1 hb=>KM cs j w1 (h.up hb) hf (hg.below hb))
  (fun w1 hb=>KF cs j x w1 (h.up hb) hf (hg.below hb) (int64_wf hx)) (fun hu w1 hb=>?_)
 ·have e:isCr j x=false:=by unfold isCr;rw [hno hu,Bool.and_false]
  unfold crpO
  rw [e]
  exact ⟨rfl,rfl⟩
 ·have:=KF cs j i w1 (h.up hb) hf (hg.below hb) (int64_nat (by omega))
  rw [hcr i hi] at this
  exact this
 ·have:=refCreep_any cs j i w1 (h.up hb) (by omega) (by omega)
  rw [hcr i hi] at this
  exact this
 ·rw [hou i hi]
  exact refOutF_any cs (j.n 10) i _ w1 (h.num (k:=10) (by decide)) (by omega) (by omega) (by omega)
 ·have:=KO cs j x w1 (h.up hb) hf (hg.below hb) (int64_wf hx)
  have e:outO j x=0:=by unfold outO;rw [hno hu];rfl
  rw [e] at this
  exact this
theorem laid_drop {P:Program} {W:World}:∀ (i:Nat) {l:List (String×DataW Unit)},laidMet P l W→laidMet P (l.drop i) W
 | 0,_,h=>h
 | _+1,[],h=>h
 | i+1,_ :: _,h=>laid_drop i h.tail
theorem gPow : Tryz.prog.globalNamed "internal/strconv.uint64pow10" = some 7 := by kernel_rfl
theorem tPow:(Tryz.prog.globals[7]?).map (·.type)=some 218:=by kernel_rfl
theorem cU64:Tryz.prog.cellsOf 70=1:=by kernel_rfl
theorem cPow:Tryz.prog.cellsOf 218=20:=by kernel_rfl
end Go.Proofs.YtbbjileignefbaaGreatDoor
