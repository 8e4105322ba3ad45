/- Part 4 of the texts that the proofs of this seat share: PanelTellsK, JobFr, PanelCode, PanelLies. -/
import Derived.Test.YtnmmmedflmdpbaaPart3
import Derived.Test.YtnmmmedflmdpbaaPart2
import Derived.Test.YtnmmmedflmdpbaaPart1
import Derived.Deep.DeepCutAuto
set_option linter.unusedSimpArgs false
set_option linter.unusedVariables false
namespace Go.Proofs.Ytnmmmedflmdpbaa
open Go.RowKit
theorem and1 (x:Int):bits .and .i64 x 1=x%2:=by
 have h:(BitVec.ofInt 64 x &&& BitVec.ofInt 64 1).toNat=(x%2).toNat:=by
  rw [BitVec.toNat_and,BitVec.toNat_ofInt,BitVec.toNat_ofInt]
  rw [show ((1:Int)%((2 ^ 64:Nat):Int)).toNat=2 ^ 1-1 by decide,Nat.and_two_pow_sub_one_eq_mod]
  omega
 show IntKind.i64.wrap (((BitVec.ofInt 64 x &&& BitVec.ofInt 64 1).toNat:Nat):Int)=_
 rw [h,IntWalk.i64_in _ (by omega)]
 omega
structure PFr (w w':World) (cs:List Value) (c r:Int) (sv:Value) (lf:Int) (fx fy:Bool):Prop where
 x:Bx w' w.heap.size cs
 s:Bx w' (w.heap.size+1) [.int .i64 c,.int .i64 r,sv]
 p:Bx w' (w.heap.size+1+1) [.int .i64 lf,.bool fx,.bool fy]
 b:Below w.heap.size w w'
theorem PFr.up {w w' w'':World} {cs:List Value} {c r:Int} {sv:Value} {lf:Int} {fx fy:Bool} (h:PFr w w' cs c r sv lf fx fy) (hl:cs.length=33) (hb:Below w'.heap.size w' w''):PFr w w'' cs c r sv lf fx fy :=
 ⟨h.x.later (by rw [hl];decide) hb,h.s.up hb,h.p.up hb,up_trans h.b hb⟩
theorem PFr.new (w:World) {cs:List Value} (hl:cs.length=33) (c r:Int) (sv:Value) (lf:Int) (fx fy:Bool) :
  PFr w (((w.alloc (.cells cs.toArray 29)).alloc (.cells #[.int .i64 c,.int .i64 r,sv] 26)).alloc (.cells #[.int .i64 lf,.bool fx,.bool fy] 31)) cs c r sv lf fx fy:=by
 have U1:=up_alloc (Below.refl w.heap.size w) (.cells cs.toArray 29)
 have U2:=up_alloc (Below.refl _ (w.alloc (.cells cs.toArray 29))) (.cells #[.int .i64 c,.int .i64 r,sv] 26)
 have U3:=up_alloc (Below.refl _ ((w.alloc (.cells cs.toArray 29)).alloc (.cells #[.int .i64 c,.int .i64 r,sv] 26))) (.cells #[.int .i64 lf,.bool fx,.bool fy] 31)
 have S:=(Bx.new (w.alloc (.cells cs.toArray 29)) 26 [.int .i64 c,.int .i64 r,sv]).up U3
 have P:=Bx.new ((w.alloc (.cells cs.toArray 29)).alloc (.cells #[.int .i64 c,.int .i64 r,sv] 26)) 31 [.int .i64 lf,.bool fx,.bool fy]
 simp only [World.size_alloc] at S P
 exact ⟨((Bx.new w 29 cs).later (by rw [hl];decide) U2).later (by rw [hl];decide) U3,S,P,up_trans (up_trans U1 U2) U3⟩
set_option maxRecDepth 100000 in
set_option maxHeartbeats 4000000 in
theorem panTells_core (cs:List Value) (c r k0 k n lf W H BW BH t1 pan R0 R1 R2 R3 A0 A1 A2 m q a1 a2 o0 o1 o2 kb kl:Int) (sa:Option Addr) (sn sc:Nat) (fx fy u v:Bool) (w:World) (hL:cs.length=33)
  (e1:IntKind.i64.wrap (W*c)=BW) (e2:IntKind.i64.wrap (H*r)=t1) (e3:IntKind.i64.wrap (t1*k0)=BH) (hk:bits .and .i64 k0 1=k) (k1:0≤k) (k2:k≤1) (hu:decide (n<0)=u) (hv:decide (pan≤n)=v) (hkb:2+k=kb) (hkl:-1-k=kl)
  (hz:(u || v)=true→(R0=0∧R1=0∧R2=0∧R3=0)∧A0=0∧A1=0∧A2=0)
  (hin:u=false→v=false→(1≤c∧c≤64)∧n.tmod c=m∧n.tdiv c=q∧(0≤q∧q≤9000)∧(0≤m∧m≤64)∧IntKind.i64.wrap (m*W)=R0∧IntKind.i64.wrap (k*r)=a1∧IntKind.i64.wrap (a1+q)=a2∧IntKind.i64.wrap (a2*H)=R1)
  (KA:∀ w1,Below w.heap.size w w1→Calls Try.prog 6 #[] w1 fun e w'=>e=.returned (.bool true)∧Below w1.heap.size w1 w')
  (KR:∀ w1,Calls Try.prog 7 #[.agg cs.toArray] w1 fun e w'=>e=.returned (.tuple #[.int .i64 W,.int .i64 H])∧Below w1.heap.size w1 w')
  (KS:∀ w1,Below w.heap.size w w1→Calls Try.prog 8 #[.agg cs.toArray] w1 fun e w'=>e=.returned (.tuple #[.int .i64 W,.int .i64 H])∧Below w1.heap.size w1 w')
  (KB:∀ w1,Below w.heap.size w w1→Calls Try.prog 9 #[.agg cs.toArray,.agg #[.int .i64 c,.int .i64 r,.slice sa sn sc],.int .i64 k0] w1 fun e w'=>e=.returned (.tuple #[.int .i64 BW,.int .i64 BH])∧Below w1.heap.size w1 w')
  (KX:∀ w1,Below w.heap.size w w1→Calls Try.prog 10 #[.agg cs.toArray,.agg #[.int .i64 c,.int .i64 r,.slice sa sn sc],.int .i64 k,.int .i64 n] w1 fun e w'=>e=.returned (.agg #[.int .i64 R0,.int .i64 R1,.int .i64 R2,.int .i64 R3])∧Below w1.heap.size w1 w')
  (KL:∀ w1,Below w.heap.size w w1→Calls Try.prog 11 #[.agg cs.toArray,.agg #[.int .i64 c,.int .i64 r,.slice sa sn sc],.int .i64 k,.int .i64 n,.agg #[.int .i64 lf,.bool fx,.bool fy]] w1 fun e w'=>e=.returned (.agg #[.int .i64 A0,.int .i64 A1,.int .i64 A2])∧Below w1.heap.size w1 w')
  (KP:∀ w1,Calls Try.prog 12 #[.agg #[.int .i64 c,.int .i64 r,.slice sa sn sc]] w1 fun e w'=>e=.returned (.int .i64 pan)∧Below w1.heap.size w1 w')
  (KO:u=false→v=false→∀ w1,Calls Try.prog 13 #[.int .i64 R0,.int .i64 R1,.int .i64 W,.int .i64 H] w1 fun e w'=>e=.returned (.agg #[.int .i64 R0,.int .i64 R1,.int .i64 R2,.int .i64 R3])∧Below w1.heap.size w1 w')
  (KN:u=false→v=false→∀ w1,Calls Try.prog 15 #[.agg cs.toArray,.agg #[.int .i64 c,.int .i64 r,.slice sa sn sc],.int .i64 k,.int .i64 n,.agg #[.int .i64 lf,.bool fx,.bool fy]] w1 fun e w'=>e=.returned (.agg #[.int .i64 o0,.int .i64 o1,.int .i64 o2])∧Below w1.heap.size w1 w')
  (KK:u=false→v=false→∀ w1,Calls Try.prog 14 #[.agg #[.int .i64 o0,.int .i64 o1,.int .i64 o2]] w1 fun e w'=>e=.returned (.agg #[.int .i64 A0,.int .i64 A1,.int .i64 A2])∧Below w1.heap.size w1 w')
  (KX0:∀ w1,Below w.heap.size w w1→Calls Try.prog 10 #[.agg cs.toArray,.agg #[.int .i64 c,.int .i64 r,.slice sa sn sc],.int .i64 kb,.int .i64 n] w1 fun e w'=>e=.returned (.agg #[.int .i64 0,.int .i64 0,.int .i64 0,.int .i64 0])∧Below w1.heap.size w1 w')
  (KL0:∀ w1,Below w.heap.size w w1→Calls Try.prog 11 #[.agg cs.toArray,.agg #[.int .i64 c,.int .i64 r,.slice sa sn sc],.int .i64 kl,.int .i64 n,.agg #[.int .i64 lf,.bool fx,.bool fy]] w1 fun e w'=>e=.returned (.agg #[.int .i64 0,.int .i64 0,.int .i64 0])∧Below w1.heap.size w1 w') :
  Calls Try.prog 3 #[.agg cs.toArray,.agg #[.int .i64 c,.int .i64 r,.slice sa sn sc],.int .i64 k0,.int .i64 n,.agg #[.int .i64 lf,.bool fx,.bool fy]] w fun e w'=>e=.returned (.bool true)∧Below w.heap.size w w':=by
 have F0:=Lib.hid (PFr.new w hL c r (.slice sa sn sc) lf fx fy)
 have HL:=Lib.hid hL;have HZ:=Lib.hid hz;have HIN:=Lib.hid hin
 have HA:=Lib.hid KA;have HR:=Lib.hid KR;have HS:=Lib.hid KS;have HB:=Lib.hid KB;have HX:=Lib.hid KX;have HLi:=Lib.hid KL;have HP:=Lib.hid KP;have HO:=Lib.hid KO;have HN:=Lib.hid KN;have HK:=Lib.hid KK;have HX0:=Lib.hid KX0;have HL0:=Lib.hid KL0
 clear hL hz hin KA KR KS KB KX KL KP KO KN KK KX0 KL0
 go_enter Try.func3,Try.ntmps3
 go_wp2_with fail
 refine (HA.out _ F0.out.b).mono ?_
 rintro e w1 ⟨rfl,hb⟩
 have F1:=Lib.hid (F0.out.up HL.out hb)
 clear hb F0
 go_wp2_with (refine wpList_load_job rfl _ rfl w.heap.size rfl cs F1.out.x HL.out ?_;simp only [Act.put,List.setIfInBounds_toArray,List.set_cons_succ,List.set_cons_zero])
 refine (HR.out _).mono ?_
 rintro e w2 ⟨rfl,hb⟩
 have F2:=Lib.hid (F1.out.up HL.out hb)
 clear hb F1
 go_wp2_with (refine wpList_load_job rfl _ rfl w.heap.size rfl cs F2.out.x HL.out ?_;simp only [Act.put,List.setIfInBounds_toArray,List.set_cons_succ,List.set_cons_zero])
 refine (HS.out _ F2.out.b).mono ?_
 rintro e w3 ⟨rfl,hb⟩
 have F3:=Lib.hid (F2.out.up HL.out hb)
 have s0:=F3.out.s.cell 0 rfl;have s1:=F3.out.s.cell 1 rfl;have s2:=F3.out.s.cell 2 rfl
 clear hb F2
 go_wp2_with (refine wpList_load_job rfl _ rfl w.heap.size rfl cs F3.out.x HL.out ?_;simp only [Act.put,List.setIfInBounds_toArray,List.set_cons_succ,List.set_cons_zero])
 refine (HB.out _ F3.out.b).mono ?_
 rintro e w4 ⟨rfl,hb⟩
 have F4:=Lib.hid (F3.out.up HL.out hb)
 clear s0 s1 s2
 have s0:=F4.out.s.cell 0 rfl;have s1:=F4.out.s.cell 1 rfl
 clear hb F3
 go_wp2_with fail
 clear s0 s1
 refine wp_region_boxes' 13 149 [(11,17),(12,18)] [37,40] (fun t=>if t=37 then [.int .i64 0,.int .i64 0,.int .i64 0,.int .i64 0] else [.int .i64 0,.int .i64 0,.int .i64 0]) (by kernel_rfl) (by kernel_rfl) rfl (fun ty hty o ρ w' ho=>by
   simp only [List.mem_cons,List.mem_singleton,List.not_mem_nil,or_false] at hty
   rcases hty with rfl | rfl<;>simp [execOp,ho,go_sem])
  ⟨_,fun v0 h0 K HKK=>by
   have F5:=F4.out.up HL.out h0
   have s0:=fun x:Later v0=>x.cell (F5.s.cell 0 rfl);have s1:=fun x:Later v0=>x.cell (F5.s.cell 1 rfl);have s2:=fun x:Later v0=>x.cell (F5.s.cell 2 rfl)
   have p0:=fun x:Later v0=>x.cell (F5.p.cell 0 rfl);have p1:=fun x:Later v0=>x.cell (F5.p.cell 1 rfl);have p2:=fun x:Later v0=>x.cell (F5.p.cell 2 rfl)
   have HRG:=Lib.hid (later_range F5.x (by rw [HL.out];decide))
   have HF5:=Lib.hid F5.b
   clear F5
   simp only [List.take_succ_cons,List.take_zero,List.filter_cons,List.filter_nil,isAlloc,Bool.not_true,Bool.not_false,if_true,Bool.false_eq_true,if_false]
   repeat (first
    | (go_big_quiet_want;refine quiet_load_job _ rfl w.heap.size rfl cs HL.out HRG.out ?_;simp only [Act.put,List.setIfInBounds_toArray,List.set_cons_succ,List.set_cons_zero];go_big_quiet_on)
    | go_big_quiet_step (first
     | (go_at_call 10;with_reducible exact Later.call (HX.out _ (up_trans HF5.out (Later.up _))))
     | (go_at_call 11;with_reducible exact Later.call (HLi.out _ (up_trans HF5.out (Later.up _))))))
   exact wpQuiet_nil (HKK.out _ rfl),?tail⟩
 case tail =>
  intro gf w5 h5 hg hne
  obtain ⟨lg,G⟩:=hg (11,17) (by simp) _ _ rfl rfl
  obtain ⟨lh,H'⟩:=hg (12,18) (by simp) _ _ rfl rfl
  have ne:=hne (11,17) (by simp) (12,18) (by simp) (by decide)
  simp only [puts,List.drop_succ_cons,List.drop_zero] at lg G lh H' ne ⊢
  generalize gf 11=g at *
  generalize gf 12=h at *
  clear hg hne
  have ne2:h≠g:=fun e=>ne e.symm
  refine wpList_store_mid rfl 37 _ _ rfl g 0 #[.int .i64 R0,.int .i64 R1,.int .i64 R2,.int .i64 R3] rfl rfl G.present (by kernel_rfl) (by simp;exact ⟨rfl,rfl,rfl,rfl⟩) ?_
  have G6:=G.sets (ws:=[.int .i64 R0,.int .i64 R1,.int .i64 R2,.int .i64 R3]) rfl
  have H6:=sets_far H' ne2 0 [.int .i64 R0,.int .i64 R1,.int .i64 R2,.int .i64 R3]
  have U6:=below_setCells lg [.int .i64 R0,.int .i64 R1,.int .i64 R2,.int .i64 R3] 0 _ h5
  simp only [Act.put]
  refine wpList_store_mid rfl 40 _ _ rfl h 0 #[.int .i64 A0,.int .i64 A1,.int .i64 A2] rfl rfl H6.present (by kernel_rfl) (by simp;exact ⟨rfl,rfl,rfl⟩) ?_
  have G7:=sets_far G6 ne 0 [.int .i64 A0,.int .i64 A1,.int .i64 A2]
  have H7:=H6.sets (ws:=[.int .i64 A0,.int .i64 A1,.int .i64 A2]) rfl
  have U7:=below_setCells lh [.int .i64 A0,.int .i64 A1,.int .i64 A2] 0 _ U6
  simp only [Act.put]
  refine wpList_nil ?_
  obtain ⟨w7,hw7⟩:∃ w7,(w5.setCells g 0 [.int .i64 R0,.int .i64 R1,.int .i64 R2,.int .i64 R3]).setCells h 0 [.int .i64 A0,.int .i64 A1,.int .i64 A2]=w7:=⟨_,rfl⟩
  rw [hw7] at G7 H7 U7
  have F7:=Lib.hid (F4.out.up HL.out U7)
  rename_i hK
  refine hK _ _ ?_
  rw [show (w5.setCells g 0 (#[.int .i64 R0,.int .i64 R1,.int .i64 R2,.int .i64 R3]:Array Value).toList).setCells h 0 (#[.int .i64 A0,.int .i64 A1,.int .i64 A2]:Array Value).toList=w7 from hw7]
  clear hw7 G6 H6 U6 U7 G H' lg lh F4 hK h5
  cases u
  ·skip
   have s0:=F7.out.s.cell 0 rfl;have s1:=F7.out.s.cell 1 rfl;have s2:=F7.out.s.cell 2 rfl
   go_wp2_with fail
   refine (HP.out _).mono ?_
   rintro e w8 ⟨rfl,hb⟩
   have F8:=Lib.hid (F7.out.up HL.out hb)
   have G8:=G7.up hb;have H8:=H7.up hb
   clear hb s0 s1 s2 F7 G7 H7 HP
   cases v
   ·obtain ⟨⟨c1,c2⟩,hm,hq,⟨q1,q2⟩,⟨m1,m2⟩,ex,er,ea,ey⟩:=HIN.out (by trivial) (by trivial)
    have KO:=HO.out (by trivial) (by trivial)
    have KN:=HN.out (by trivial) (by trivial)
    have KK:=HK.out (by trivial) (by trivial)
    have HO2:=Lib.hid KO;have HN2:=Lib.hid KN;have HK2:=Lib.hid KK
    clear HIN HO HN HK KO KN KK
    have cz:¬ c=0:=by omega
    have czb:(c==0)=false:=by simp;omega
    go_wp2_with fail
    refine wp_region_boxes' 21 149 [(20,19)] [37] (fun _=>[.int .i64 0,.int .i64 0,.int .i64 0,.int .i64 0]) (by kernel_rfl) (by kernel_rfl) rfl (fun ty hty o ρ w' ho=>by simp only [List.mem_singleton] at hty;subst hty;simp [execOp,ho,go_sem])
     ⟨_,fun v0 h0 K HKK=>by
      have F9:=F8.out.up HL.out h0
      have s0:=fun x:Later v0=>x.cell (F9.s.cell 0 rfl);have s1:=fun x:Later v0=>x.cell (F9.s.cell 1 rfl)
      clear F9
      simp only [List.take_succ_cons,List.take_zero,List.filter_cons,List.filter_nil,isAlloc,Bool.not_true,Bool.not_false,if_true,Bool.false_eq_true,if_false]
      repeat (go_big_quiet_step ((go_at_call 13;with_reducible exact Later.call (HO2.out _))))
      exact wpQuiet_nil (HKK.out _ rfl),?tail2⟩
    case tail2 =>
     intro gf w9 h9 hg hne
     obtain ⟨lg,Q9⟩:=hg (20,19) (by simp) _ _ rfl rfl
     simp only [puts,List.drop_succ_cons,List.drop_zero] at lg Q9 ⊢
     generalize gf 20=g2 at *
     clear hg hne
     refine wpList_store_mid rfl 37 _ _ rfl g2 0 #[.int .i64 R0,.int .i64 R1,.int .i64 R2,.int .i64 R3] rfl rfl Q9.present (by kernel_rfl) (by simp;exact ⟨rfl,rfl,rfl,rfl⟩) ?_
     have Q10:=Q9.sets (ws:=[.int .i64 R0,.int .i64 R1,.int .i64 R2,.int .i64 R3]) rfl
     have U10:=below_setCells lg [.int .i64 R0,.int .i64 R1,.int .i64 R2,.int .i64 R3] 0 _ h9
     simp only [Act.put]
     refine wpList_nil ?_
     obtain ⟨w10,hw10⟩:∃ w10,w9.setCells g2 0 [.int .i64 R0,.int .i64 R1,.int .i64 R2,.int .i64 R3]=w10:=⟨_,rfl⟩
     rw [hw10] at Q10 U10
     have F10:=Lib.hid (F8.out.up HL.out U10)
     have G10:=G8.up U10;have H10:=H8.up U10
     rename_i hK
     refine hK _ _ ?_
     rw [show w9.setCells g2 0 (#[.int .i64 R0,.int .i64 R1,.int .i64 R2,.int .i64 R3]:Array Value).toList=w10 from hw10]
     clear hw10 Q9 U10 F8 G8 H8 hK h9 lg
     simp only [List.setIfInBounds_toArray,List.set_cons_zero,List.set_cons_succ]
     go_wp2_with fail
     have k4:=fun w=>run_eq4 R0 R1 R2 R3 w
     have k3:=fun w=>run_eq3 A0 A1 A2 w
     have z4:=fun w=>run_eq4 0 0 0 0 w
     have z3:=fun w=>run_eq3 0 0 0 w
     have s0:=fun x:Later w10=>x.cell (F10.out.s.cell 0 rfl);have s1:=fun x:Later w10=>x.cell (F10.out.s.cell 1 rfl);have s2:=fun x:Later w10=>x.cell (F10.out.s.cell 2 rfl)
     have p0:=fun x:Later w10=>x.cell (F10.out.p.cell 0 rfl);have p1:=fun x:Later w10=>x.cell (F10.out.p.cell 1 rfl);have p2:=fun x:Later w10=>x.cell (F10.out.p.cell 2 rfl)
     have g0:=fun x:Later w10=>x.cell (G10.cell 0 rfl);have g1:=fun x:Later w10=>x.cell (G10.cell 1 rfl);have g2':=fun x:Later w10=>x.cell (G10.cell 2 rfl);have g3:=fun x:Later w10=>x.cell (G10.cell 3 rfl)
     have h0:=fun x:Later w10=>x.cell (H10.cell 0 rfl);have h1:=fun x:Later w10=>x.cell (H10.cell 1 rfl);have h2:=fun x:Later w10=>x.cell (H10.cell 2 rfl)
     have q0:=fun x:Later w10=>x.cell (Q10.cell 0 rfl);have q1':=fun x:Later w10=>x.cell (Q10.cell 1 rfl);have q2':=fun x:Later w10=>x.cell (Q10.cell 2 rfl);have q3:=fun x:Later w10=>x.cell (Q10.cell 3 rfl)
     have HRG:=Lib.hid (later_range F10.out.x (by rw [HL.out];decide))
     clear G10 H10 Q10
     refine later_start (w:=w10) ?_
     intro y
     refine wp_region_later (by kernel_rfl) (by kernel_rfl) ?_
     repeat (first
      | (go_big_quiet_want;refine quiet_load_job _ rfl w.heap.size rfl cs HL.out HRG.out ?_;simp only [Act.put,List.setIfInBounds_toArray,List.set_cons_succ,List.set_cons_zero];go_big_quiet_on)
      | go_big_quiet_step (first
       | (go_at_call 15;with_reducible exact Later.call (HN2.out _))
       | (go_at_call 14;with_reducible exact Later.call (HK2.out _))
       | (go_at_call 10;with_reducible exact Later.call (HX0.out _ (up_trans F10.out.b (Later.up _))))
       | (go_at_call 11;with_reducible exact Later.call (HL0.out _ (up_trans F10.out.b (Later.up _))))))
     refine wpQuiet_nil ?_
     rintro _ ⟨y2,rfl⟩
     have BB:=Lib.hid (up_trans F10.out.b y2.up)
     clear s0 s1 s2 p0 p1 p2 g0 g1 g2' g3 h0 h1 h2 q0 q1' q2' q3
     go_wp2
     go_ret
     exact ⟨rfl,BB.out⟩
   ·obtain ⟨⟨rfl,rfl,rfl,rfl⟩,rfl,rfl,rfl⟩:=HZ.out (by trivial)
    clear HIN HO HN HK
    have g0:=G8.cell 0 rfl;have g1:=G8.cell 1 rfl;have g2:=G8.cell 2 rfl;have g3:=G8.cell 3 rfl
    have h0:=H8.cell 0 rfl;have h1:=H8.cell 1 rfl;have h2:=H8.cell 2 rfl
    go_wp2
    go_ret
    exact ⟨rfl,F8.out.b⟩
  ·obtain ⟨⟨rfl,rfl,rfl,rfl⟩,rfl,rfl,rfl⟩:=HZ.out (by trivial)
   clear HIN HO HN HK
   have g0:=G7.cell 0 rfl;have g1:=G7.cell 1 rfl;have g2:=G7.cell 2 rfl;have g3:=G7.cell 3 rfl
   have h0:=H7.cell 0 rfl;have h1:=H7.cell 1 rfl;have h2:=H7.cell 2 rfl
   go_wp2
   go_ret
   exact ⟨rfl,F7.out.b⟩
theorem pan_sides {c r n:Int} (h0:0≤n) (h:n<panM c r):(1≤c∧c≤64)∧(1≤r∧r≤64)∧n≤4096:=by
 unfold panM sideB at h
 split at h
 next hs =>
  simp only [Bool.and_eq_true,decide_eq_true_eq] at hs
  have h2:c*r≤64*64:=Int.mul_le_mul hs.1.2 hs.2.2 (by omega) (by decide)
  omega
 next=>omega
theorem div_rests {c n:Int} (hc:1≤c∧c≤64) (hp:0≤n∧n≤4096):(0≤n.tdiv c∧n.tdiv c≤9000)∧(0≤n.tmod c∧n.tmod c≤64):=by
 rw [Int.tdiv_eq_ediv_of_nonneg hp.1,Int.tmod_eq_emod_of_nonneg hp.1]
 have h2:=Int.ediv_nonneg hp.1 (show 0≤c by omega)
 have h3:n / c≤n:=Int.ediv_le_self _ hp.1
 have h4:=Int.emod_nonneg n (show c≠0 by omega)
 have h5:=Int.emod_lt_of_pos n (show 0<c by omega)
 omega
theorem pan_out {c r k n:Int} (h:(decide (n<0) || decide (panM c r≤n))=true):inPan c r k n=false:=by
 unfold inPan
 simp only [Bool.or_eq_true,decide_eq_true_eq] at h
 rw [Bool.and_eq_false_iff]
 right
 simp only [Bool.and_eq_false_iff,decide_eq_false_iff_not]
 omega
theorem pan_copy {c r k n:Int} (h:k<0∨1<k):inPan c r k n=false:=by
 unfold inPan
 rw [Bool.and_eq_false_iff]
 left
 simp only [Bool.and_eq_false_iff,decide_eq_false_iff_not]
 omega
theorem boxP_no {m:Nat→Int} {c r k n:Int} (h:inPan c r k n=false):boxP m c r k n=(0,0,0,0):=by unfold boxP;rw [h];rfl
theorem liesP_no {m:Nat→Int} {c r k n:Int} {fx fy:Bool} (h:inPan c r k n=false):liesP m c r k n fx fy=(0,0,0):=by unfold liesP;rw [h];rfl
theorem walkPanelTellsK (KS:PanSize) (KB:PanBlock) (KX:PanBox) (KL:PanLies) (KT:PanTrim) (cs:List Value) (j:Jb) (c r:Int) (ad:Option Addr) (len cap:Nat) (k n:Int) (lf:Int) (fx fy:Bool) (w:World) (h:JobA w cs j∧j.t.length≤maxLen∧∀ p∈j.ls,p.length≤maxLen) (x0:(Lit.int .i64 c).wf=true) (x1:(Lit.int .i64 r).wf=true)
  (hs:(ad=none∧len=0∧cap=0)∨∃ x,ad=some x∧len≤cap∧cap≤maxLen∧∀ i,i<len→(∃ z,w.cell? (x.add (i*3+0))=some (.int .i64 z)∧(Lit.int .i64 z).wf=true)∧(∃ z,w.cell? (x.add (i*3+1))=some (.int .i64 z)∧(Lit.int .i64 z).wf=true)∧(∃ z,w.cell? (x.add (i*3+2))=some (.bool z))) (y0:(Lit.int .i64 k).wf=true) (y1:(Lit.int .i64 n).wf=true) (y2:(Lit.int .i64 lf).wf=true) :
  Calls Try.prog 3 #[.agg cs.toArray,.agg #[.int .i64 c,.int .i64 r,.slice ad len cap],.int .i64 k,.int .i64 n,.agg #[.int .i64 lf,.bool fx,.bool fy]] w fun e w'=>e=.returned (.bool true)∧Below w.heap.size w w':=by
 have hJ:=h.1
 have hN:=hJ.numC
 have hL:=hJ.length
 have ic:=wf_i64 x0;have ir:=wf_i64 x1;have ik:=wf_i64 y0;have inn:=wf_i64 y1
 have hk2:0≤k%2∧k%2≤1:=by omega
 have i2:I64 (k%2):=by unfold I64;omega
 have i3:I64 (2+k%2):=by unfold I64;omega
 have i4:I64 (-1-k%2):=by unfold I64;omega
 have KX0:=fun w1 (hb:Below w.heap.size w w1)=>KX cs j c r (2+k%2) n ad len cap w1 (hJ.up hb) ic ir i3 inn
 have KL0:=fun w1 (hb:Below w.heap.size w w1)=>KL cs j c r (-1-k%2) n lf ad len cap fx fy w1 (hJ.up hb) ic ir i4 inn
 rw [boxP_no (pan_copy (by omega))] at KX0
 rw [liesP_no (pan_copy (by omega))] at KL0
 obtain ⟨s1,s2⟩:=siz_in j.n
 have hin:decide (n<0)=false→decide (panM c r≤n)=false→((1≤c∧c≤64)∧(0≤n∧n≤4096))∧inPan c r (k%2) n=true:=fun e1 e2=>by
  simp only [decide_eq_false_iff_not] at e1 e2
  obtain ⟨a1,a2,a3⟩:=pan_sides (c:=c) (r:=r) (n:=n) (by omega) (by omega)
  refine ⟨⟨a1,by omega,a3⟩,?_⟩
  unfold inPan
  simp only [Bool.and_eq_true,decide_eq_true_eq]
  omega
 refine panTells_core cs c r k (k%2) n lf (sizW j.n) (sizH j.n) (w64 (sizW j.n*c)) (w64 (sizH j.n*r*k)) _ (panM c r) (boxP j.n c r (k%2) n).1 (boxP j.n c r (k%2) n).2.1 (boxP j.n c r (k%2) n).2.2.1 (boxP j.n c r (k%2) n).2.2.2
  (liesP j.n c r (k%2) n fx fy).1 (liesP j.n c r (k%2) n fx fy).2.1 (liesP j.n c r (k%2) n fx fy).2.2 (n.tmod c) (n.tdiv c) (IntKind.i64.wrap (k%2*r)) (IntKind.i64.wrap (IntKind.i64.wrap (k%2*r)+n.tdiv c)) (ontoP j.n c r (k%2) n fx fy).1 (ontoP j.n c r (k%2) n fx fy).2.1 (ontoP j.n c r (k%2) n fx fy).2.2 _ _ ad len cap fx fy _ _ w hL
  rfl rfl (w64_mulL _ _) (and1 k) hk2.1 hk2.2 rfl rfl rfl rfl (fun e=>?_) (fun e1 e2=>?_) (fun w1 hb=>panAlive_any KS KL KT w1) (fun w1=>refSize_any cs j.n w1 hN) (fun w1 hb=>KS cs j w1 (hJ.up hb)) (fun w1 hb=>KB cs j c r k ad len cap w1 (hJ.up hb) ic ir ik)
  (fun w1 hb=>KX cs j c r (k%2) n ad len cap w1 (hJ.up hb) ic ir i2 inn) (fun w1 hb=>KL cs j c r (k%2) n lf ad len cap fx fy w1 (hJ.up hb) ic ir i2 inn) (fun w1=>refPanels_any c r ad len cap w1) (fun e1 e2 w1=>?_) (fun e1 e2 w1=>?_) (fun e1 e2 w1=>?_) KX0 KL0
 ·have hp:=pan_out (k:=k%2) e
  rw [boxP_no hp,liesP_no hp]
  exact ⟨⟨rfl,rfl,rfl,rfl⟩,rfl,rfl,rfl⟩
 ·obtain ⟨⟨hc,hn⟩,hp⟩:=hin e1 e2
  obtain ⟨hq,hm⟩:=div_rests hc hn
  unfold boxP
  rw [if_pos hp]
  exact ⟨hc,rfl,rfl,hq,hm,rfl,rfl,rfl,boxY_eq _ _ _ _ _⟩
 ·obtain ⟨⟨hc,hn⟩,hp⟩:=hin e1 e2
  unfold boxP
  rw [if_pos hp]
  exact refRectOf_any (boxX j.n c n) (boxY j.n c r (k%2) n) (sizW j.n) (sizH j.n) w1
 ·obtain ⟨⟨hc,hn⟩,hp⟩:=hin e1 e2
  exact refOnto_any cs j.n c r (k%2) n lf ad len cap fx fy w1 hN hL hc hn
 ·obtain ⟨⟨hc,hn⟩,hp⟩:=hin e1 e2
  obtain ⟨t1,t2⟩:=onto_in j.n c r (k%2) n fx fy
  have K:=refBack_any (ontoP j.n c r (k%2) n fx fy).1 (ontoP j.n c r (k%2) n fx fy).2.1 (ontoP j.n c r (k%2) n fx fy).2.2 w1 t1.1 t1.2 t2.1 t2.2
  rw [lies_onto _ _ _ _ _ _ _ hp] at K
  exact K
structure JFr (w w':World) (cs:List Value) (c r:Int) (sv:Value):Prop where
 x:Bx w' w.heap.size cs
 s:Bx w' (w.heap.size+1) [.int .i64 c,.int .i64 r,sv]
 b:Below w.heap.size w w'
theorem JFr.up {w w' w'':World} {cs:List Value} {c r:Int} {sv:Value} (h:JFr w w' cs c r sv) (hl:cs.length=33) (hb:Below w'.heap.size w' w''):JFr w w'' cs c r sv :=
 ⟨h.x.later (by rw [hl];decide) hb,h.s.up hb,up_trans h.b hb⟩
theorem JFr.new (w:World) {cs:List Value} (hl:cs.length=33) (c r:Int) (sv:Value) :
  JFr w ((w.alloc (.cells cs.toArray 29)).alloc (.cells #[.int .i64 c,.int .i64 r,sv] 26)) cs c r sv:=by
 have U1:=up_alloc (Below.refl w.heap.size w) (.cells cs.toArray 29)
 have U2:=up_alloc (Below.refl _ (w.alloc (.cells cs.toArray 29))) (.cells #[.int .i64 c,.int .i64 r,sv] 26)
 have S:=Bx.new (w.alloc (.cells cs.toArray 29)) 26 [.int .i64 c,.int .i64 r,sv]
 simp only [World.size_alloc] at S
 exact ⟨(Bx.new w 29 cs).later (by rw [hl];decide) U2,S,up_trans U1 U2⟩
theorem panSize_core (cs:List Value) (s a f t h d p1 p2 q1 q2:Int) (w:World) (c10:cs[10]?=some (.int .i64 s)) (c4:cs[4]?=some (.int .i64 a)) (c9:cs[9]?=some (.int .i64 f)) (c8:cs[8]?=some (.int .i64 t)) (c5:cs[5]?=some (.int .i64 h)) (c7:cs[7]?=some (.int .i64 d))
    (e1:IntKind.i64.wrap (s+a)=p1) (e2:IntKind.i64.wrap (p1+f)=p2) (e3:IntKind.i64.wrap (t+h)=q1) (e4:IntKind.i64.wrap (q1+d)=q2) :
    Calls Try.prog 8 #[.agg cs.toArray] w fun e w'=>e=.returned (.tuple #[.int .i64 p2,.int .i64 q2])∧Below w.heap.size w w':=by
  have HX:=Bx.new w 29 cs
  have HB:=Lib.hid (up_alloc (Below.refl w.heap.size w) (.cells cs.toArray 29))
  have b10:=HX.cell 10 c10;have b4:=HX.cell 4 c4;have b9:=HX.cell 9 c9;have b8:=HX.cell 8 c8;have b5:=HX.cell 5 c5;have b7:=HX.cell 7 c7
  clear HX c10 c4 c9 c8 c5 c7
  generalize cs.toArray=ca at *
  go_enter Try.func8,Try.ntmps8
  go_wp2_with fail
  obtain ⟨w1,hw1⟩:∃ w1,w.alloc (.cells ca 29)=w1:=⟨_,rfl⟩
  rw [hw1] at b10 b4 b9 b8 b5 b7 HB ⊢
  clear hw1
  have j10:=fun u:Later w1=>u.cell b10;have j4:=fun u:Later w1=>u.cell b4;have j9:=fun u:Later w1=>u.cell b9
  have j8:=fun u:Later w1=>u.cell b8;have j5:=fun u:Later w1=>u.cell b5;have j7:=fun u:Later w1=>u.cell b7
  clear b10 b4 b9 b8 b5 b7
  refine later_start (w:=w1) ?_
  intro u
  refine wp_region_later (by kernel_rfl) (by kernel_rfl) ?_
  repeat (go_big_quiet_step (fail))
  refine wpQuiet_nil ?_
  rintro _ ⟨u2,rfl⟩
  have BB:=Lib.hid (up_trans HB.out u2.up)
  clear j10 j4 j9 j8 j5 j7
  go_wp2
  go_ret2
  exact ⟨rfl,BB.out⟩
theorem panSize:PanSize:=fun cs j w hj =>
  have h:=hj.numC
  panSize_core cs _ _ _ _ _ _ _ _ _ _ w (h 9 (by decide)) (h 3 (by decide)) (h 8 (by decide)) (h 7 (by decide)) (h 4 (by decide)) (h 6 (by decide)) rfl (sizW_eq j.n) rfl (sizH_eq j.n)
set_option maxHeartbeats 1000000 in
theorem panBlock_core (cs:List Value) (c r k W H a b d:Int) (sa:Option Addr) (sn sc:Nat) (w:World) (hL:cs.length=33) (e1:IntKind.i64.wrap (c*W)=a) (e2:IntKind.i64.wrap (k*r)=b) (e3:IntKind.i64.wrap (b*H)=d)
    (KS:∀ w1,Below w.heap.size w w1→Calls Try.prog 8 #[.agg cs.toArray] w1 fun e w'=>e=.returned (.tuple #[.int .i64 W,.int .i64 H])∧Below w1.heap.size w1 w') :
    Calls Try.prog 9 #[.agg cs.toArray,.agg #[.int .i64 c,.int .i64 r,.slice sa sn sc],.int .i64 k] w fun e w'=>e=.returned (.tuple #[.int .i64 a,.int .i64 d])∧Below w.heap.size w w':=by
  have F0:=Lib.hid (JFr.new w hL c r (.slice sa sn sc))
  have HL:=Lib.hid hL;have HS:=Lib.hid KS
  clear hL KS
  go_enter Try.func9,Try.ntmps9
  go_wp2_with (refine wpList_load_job rfl _ rfl w.heap.size rfl cs F0.out.x HL.out ?_;simp only [Act.put,List.setIfInBounds_toArray,List.set_cons_succ,List.set_cons_zero])
  refine (HS.out _ F0.out.b).mono ?_
  rintro e w1 ⟨rfl,hb⟩
  have F1:=F0.out.up HL.out hb
  have j0:=fun y:Later w1=>y.cell (F1.s.cell 0 rfl);have j1:=fun y:Later w1=>y.cell (F1.s.cell 1 rfl)
  have B1:=Lib.hid F1.b
  clear hb F0 F1
  go_wp2_with fail
  refine later_start (w:=w1) ?_
  intro y
  refine wp_region_later (by kernel_rfl) (by kernel_rfl) ?_
  repeat (go_big_quiet_step (fail))
  refine wpQuiet_nil ?_
  rintro _ ⟨y2,rfl⟩
  have BB:=Lib.hid (up_trans B1.out y2.up)
  clear j0 j1
  go_wp2
  go_ret2
  exact ⟨rfl,BB.out⟩
theorem panBlock:PanBlock:=fun cs j c r k sa sn sc w hj hc hr hk=>by
  refine panBlock_core cs c r k (sizW j.n) (sizH j.n) _ _ _ sa sn sc w hj.length ?_ rfl ?_ (fun w1 hb=>panSize cs j w1 (hj.up hb))
  · rw [Int.mul_comm];rfl
  · show w64 (w64 (k*r)*sizH j.n)=_
    rw [w64_mulL,Int.mul_assoc,Int.mul_comm (sizH j.n),Int.mul_right_comm,Int.mul_comm k,Int.mul_assoc,Int.mul_assoc,Int.mul_comm k (sizH j.n)]
theorem panHas_core (c r k p m:Int) (a b g l o:Bool) (sa:Option Addr) (sn sc:Nat) (w:World) (e0:(k==0)=a) (e1:(k==1)=b) (e2:decide (0≤p)=g) (e3:decide (p<m)=l) (ho:((a || b)&&(g&&l))=o)
    (KP:∀ w1,Calls Try.prog 45 #[.agg #[.int .i64 c,.int .i64 r,.slice sa sn sc]] w1 fun e w'=>e=.returned (.int .i64 m)∧Below w1.heap.size w1 w') :
    Calls Try.prog 26 #[.agg #[.int .i64 c,.int .i64 r,.slice sa sn sc],.int .i64 k,.int .i64 p] w fun e w'=>e=.returned (.bool o)∧Below w.heap.size w w':=by
  have S:=Bx.new w 26 [.int .i64 c,.int .i64 r,.slice sa sn sc]
  have B:=Lib.hid (up_alloc (Below.refl w.heap.size w) (.cells #[.int .i64 c,.int .i64 r,.slice sa sn sc] 26))
  have s0:=S.cell 0 rfl;have s1:=S.cell 1 rfl;have s2:=S.cell 2 rfl
  have HP:=Lib.hid KP;have HO:=Lib.hid ho
  clear S KP ho
  cases a<;>cases b<;>cases g<;>(
    go_enter Try.func26,Try.ntmps26
    go_wp2_with fail
    first
    | (refine (HP.out _).mono ?_
       rintro e w1 ⟨rfl,hb⟩
       obtain rfl:l=o:=HO.out
       have B2:=up_trans B.out hb
       clear s0 s1 s2 hb
       go_wp2
       go_ret
       exact ⟨rfl,B2⟩)
    | (obtain rfl:false=o:=HO.out
       go_ret
       exact ⟨rfl,B.out⟩))
theorem panHas_any (c r k p:Int) (sa:Option Addr) (sn sc:Nat) (w:World) :
    Calls Try.prog 26 #[.agg #[.int .i64 c,.int .i64 r,.slice sa sn sc],.int .i64 k,.int .i64 p] w fun e w'=>e=.returned (.bool (inPan c r k p))∧Below w.heap.size w w':=by
  refine panHas_core c r k p (panM c r) _ _ _ _ _ sa sn sc w rfl rfl rfl rfl ?_ (fun w1=>schPanels_any c r sa sn sc w1)
  unfold inPan
  congr 1
  rw [Bool.eq_iff_iff]
  simp
  omega
theorem panReader_core (cs:List Value) (W H:Int) (recto:Bool) (w:World) (hL:cs.length=33)
    (KS:∀ w1,Below w.heap.size w w1→Calls Try.prog 8 #[.agg cs.toArray] w1 fun e w'=>e=.returned (.tuple #[.int .i64 W,.int .i64 H])∧Below w1.heap.size w1 w') (o0 o1:Int) (h0:(if recto=true then 0 else 4)=o0) (h1:(if recto=true then 0 else W)=o1) :
    Calls Try.prog 21 #[.agg cs.toArray,.bool recto] w fun e w'=>e=.returned (.agg #[.int .i64 o0,.int .i64 o1,.int .i64 0])∧Below w.heap.size w w':=by
  have X1:=Bx.new w 29 cs
  have U1:=up_alloc (Below.refl w.heap.size w) (.cells cs.toArray 29)
  have V1:=up_alloc (Below.refl _ (w.alloc (.cells cs.toArray 29))) (.cells #[.int .i64 0,.int .i64 0,.int .i64 0] 40)
  have R1:=Bx.new (w.alloc (.cells cs.toArray 29)) 40 [.int .i64 0,.int .i64 0,.int .i64 0]
  rw [World.size_alloc] at R1
  have HX:=Lib.hid (X1.later (by rw [hL];decide) V1)
  have HR:=Lib.hid R1
  have HB:=Lib.hid (up_trans U1 V1)
  have HL:=Lib.hid hL;have HS:=Lib.hid KS
  have KM:=Lib.hid (fun w1=>move_any 0 0 w1)
  have KF:=Lib.hid (fun w1=>flipX_any W w1)
  clear X1 U1 V1 R1 hL KS
  cases recto
  · obtain rfl:4=o0:=h0
    obtain rfl:W=o1:=h1
    go_enter Try.func21,Try.ntmps21
    go_wp2_with (refine wpList_load_job rfl _ rfl w.heap.size rfl cs HX.out HL.out ?_;simp only [Act.put,List.setIfInBounds_toArray,List.set_cons_succ,List.set_cons_zero])
    refine (HS.out _ HB.out).mono ?_
    rintro e w1 ⟨rfl,hb⟩
    have HR1:=Lib.hid (HR.out.up hb)
    have HB1:=Lib.hid (up_trans HB.out hb)
    clear hb
    go_wp2_with fail
    refine (KF.out _).mono ?_
    rintro e w2 ⟨rfl,hb⟩
    have R2:=HR1.out.up hb
    have B2:=up_trans HB1.out hb
    clear hb
    have r0:=R2.cell 0 rfl;have r1:=R2.cell 1 rfl;have r2:=R2.cell 2 rfl;have rf:=R2.free
    clear R2
    go_wp2
    refine bodyPost_ret (v:=.agg #[.int .i64 4,.int .i64 W,.int .i64 0]) (by simp [results,Try.results21,go_sem,r0,r1,r2]) rfl ⟨rfl,?_⟩
    exact up_set (up_set (up_set B2 (by simp only;omega) _) (by simp only;omega) _) (by simp only;omega) _
  · obtain rfl:0=o0:=h0
    obtain rfl:0=o1:=h1
    go_enter Try.func21,Try.ntmps21
    go_wp2_with fail
    refine (KM.out _).mono ?_
    rintro e w2 ⟨rfl,hb⟩
    have R2:=HR.out.up hb
    have B2:=up_trans HB.out hb
    clear hb
    have r0:=R2.cell 0 rfl;have r1:=R2.cell 1 rfl;have r2:=R2.cell 2 rfl;have rf:=R2.free
    clear R2
    go_wp2
    refine bodyPost_ret (v:=.agg #[.int .i64 0,.int .i64 0,.int .i64 0]) (by simp [results,Try.results21,go_sem,r0,r1,r2]) rfl ⟨rfl,?_⟩
    exact up_set (up_set (up_set B2 (by simp only;omega) _) (by simp only;omega) _) (by simp only;omega) _
theorem panReader:PanReader:=fun cs j recto w hj=>by
  have K:=panReader_core cs (sizW j.n) (sizH j.n) recto w hj.length (fun w1 hb=>panSize cs j w1 (hj.up hb)) _ _ rfl rfl
  unfold readP plV
  cases recto
  · exact K
  · exact K
theorem panTrim_core (cs:List Value) (s f t a h x x1 y1:Int) (recto:Bool) (w:World) (hL:cs.length=33) (c10:cs[10]?=some (.int .i64 s)) (c9:cs[9]?=some (.int .i64 f)) (c8:cs[8]?=some (.int .i64 t)) (c4:cs[4]?=some (.int .i64 a)) (c5:cs[5]?=some (.int .i64 h)) (hx:(if recto=true then s else f)=x)
    (KO:∀ w1,Calls Try.prog 27 #[.int .i64 x,.int .i64 t,.int .i64 a,.int .i64 h] w1 fun e w'=>e=.returned (.agg #[.int .i64 x,.int .i64 t,.int .i64 x1,.int .i64 y1])∧Below w1.heap.size w1 w') :
    Calls Try.prog 17 #[.agg cs.toArray,.bool recto] w fun e w'=>e=.returned (.agg #[.int .i64 x,.int .i64 t,.int .i64 x1,.int .i64 y1])∧Below w.heap.size w w':=by
  have X1:=Bx.new w 29 cs
  have U1:=up_alloc (Below.refl w.heap.size w) (.cells cs.toArray 29)
  have V1:=up_alloc (Below.refl _ (w.alloc (.cells cs.toArray 29))) (.cells #[.int .i64 0,.int .i64 0,.int .i64 0,.int .i64 0] 37)
  have R1:=Bx.new (w.alloc (.cells cs.toArray 29)) 37 [.int .i64 0,.int .i64 0,.int .i64 0,.int .i64 0]
  rw [World.size_alloc] at R1
  have X2:=X1.later (by rw [hL];decide) V1
  have b10:=X2.cell 10 c10;have b9:=X2.cell 9 c9;have b8:=X2.cell 8 c8;have b4:=X2.cell 4 c4;have b5:=X2.cell 5 c5
  have HR:=Lib.hid R1
  have HB:=Lib.hid (up_trans U1 V1)
  have HO:=Lib.hid KO
  clear X1 X2 U1 V1 R1 KO c10 c9 c8 c4 c5 hL
  generalize cs.toArray=ca at *
  cases recto
  · obtain rfl:f=x:=hx
    go_enter Try.func17,Try.ntmps17
    go_wp2_with fail
    refine (HO.out _).mono ?_
    rintro e w2 ⟨rfl,hb⟩
    have R2:=HR.out.up hb
    have B2:=up_trans HB.out hb
    clear hb b10 b9 b8 b4 b5
    have r0:=R2.cell 0 rfl;have r1:=R2.cell 1 rfl;have r2:=R2.cell 2 rfl;have r3:=R2.cell 3 rfl;have rf:=R2.free
    clear R2
    go_wp2
    refine bodyPost_ret (v:=.agg #[.int .i64 f,.int .i64 t,.int .i64 x1,.int .i64 y1]) (by simp [results,Try.results17,go_sem,r0,r1,r2,r3]) rfl ⟨rfl,?_⟩
    exact up_set (up_set (up_set (up_set B2 (by simp only;omega) _) (by simp only;omega) _) (by simp only;omega) _) (by simp only;omega) _
  · obtain rfl:s=x:=hx
    go_enter Try.func17,Try.ntmps17
    go_wp2_with fail
    refine (HO.out _).mono ?_
    rintro e w2 ⟨rfl,hb⟩
    have R2:=HR.out.up hb
    have B2:=up_trans HB.out hb
    clear hb b10 b9 b8 b4 b5
    have r0:=R2.cell 0 rfl;have r1:=R2.cell 1 rfl;have r2:=R2.cell 2 rfl;have r3:=R2.cell 3 rfl;have rf:=R2.free
    clear R2
    go_wp2
    refine bodyPost_ret (v:=.agg #[.int .i64 s,.int .i64 t,.int .i64 x1,.int .i64 y1]) (by simp [results,Try.results17,go_sem,r0,r1,r2,r3]) rfl ⟨rfl,?_⟩
    exact up_set (up_set (up_set (up_set B2 (by simp only;omega) _) (by simp only;omega) _) (by simp only;omega) _) (by simp only;omega) _
theorem panTrim:PanTrim:=fun cs j recto w hj =>
  have h:=hj.numC
  panTrim_core cs (j.n 9) (j.n 8) (j.n 7) (j.n 3) (j.n 4) (fromP j.n recto) _ _ recto w hj.length (h 9 (by decide)) (h 8 (by decide)) (h 7 (by decide)) (h 3 (by decide)) (h 4 (by decide)) rfl (fun w1=>boxOf_any _ _ _ _ w1)
theorem panClip_core (cs:List Value) (b x0 y0 x1 y1 l r g0 g1 g2 g3:Int) (recto:Bool) (w:World) (hL:cs.length=33) (c6:cs[6]?=some (.int .i64 b)) (hl:(if recto=true then 0 else b)=l) (hr:(if recto=true then b else 0)=r)
    (KT:∀ w1,Below w.heap.size w w1→Calls Try.prog 17 #[.agg cs.toArray,.bool recto] w1 fun e w'=>e=.returned (.agg #[.int .i64 x0,.int .i64 y0,.int .i64 x1,.int .i64 y1])∧Below w1.heap.size w1 w')
    (KG:∀ w1,Calls Try.prog 37 #[.agg #[.int .i64 x0,.int .i64 y0,.int .i64 x1,.int .i64 y1],.int .i64 l,.int .i64 b,.int .i64 r,.int .i64 b] w1 fun e w'=>e=.returned (.agg #[.int .i64 g0,.int .i64 g1,.int .i64 g2,.int .i64 g3])∧Below w1.heap.size w1 w') :
    Calls Try.prog 18 #[.agg cs.toArray,.bool recto] w fun e w'=>e=.returned (.agg #[.int .i64 g0,.int .i64 g1,.int .i64 g2,.int .i64 g3])∧Below w.heap.size w w':=by
  have X1:=Bx.new w 29 cs
  have U1:=up_alloc (Below.refl w.heap.size w) (.cells cs.toArray 29)
  have V1:=up_alloc (Below.refl _ (w.alloc (.cells cs.toArray 29))) (.cells #[.int .i64 0,.int .i64 0,.int .i64 0,.int .i64 0] 37)
  have R1:=Bx.new (w.alloc (.cells cs.toArray 29)) 37 [.int .i64 0,.int .i64 0,.int .i64 0,.int .i64 0]
  rw [World.size_alloc] at R1
  have HX:=Lib.hid (X1.later (by rw [hL];decide) V1)
  have HR:=Lib.hid R1
  have HB:=Lib.hid (up_trans U1 V1)
  have HL:=Lib.hid hL;have HT:=Lib.hid KT;have HG:=Lib.hid KG;have H6:=Lib.hid c6
  clear X1 U1 V1 R1 hL KT KG c6
  cases recto
  · obtain rfl:b=l:=hl
    obtain rfl:0=r:=hr
    go_enter Try.func18,Try.ntmps18
    go_wp2_with fail
    obtain ⟨w1,hw1⟩:∃ w1,(w.alloc (.cells cs.toArray 29)).alloc (.cells #[.int .i64 0,.int .i64 0,.int .i64 0,.int .i64 0] 37)=w1:=⟨_,rfl⟩
    rw [hw1] at HX HR HB ⊢
    clear hw1
    have k6:=fun y:Later w1=>y.cell (HX.out.cell 6 H6.out)
    have HRG:=Lib.hid (later_range HX.out (by rw [HL.out];decide))
    have HT2:=Lib.hid (fun y:Later w1=>HT.out y.now (up_trans HB.out y.up))
    refine later_start (w:=w1) ?_
    intro y
    refine wp_region_later_tail 10 (by kernel_rfl) (by kernel_rfl) ?_
    simp only [List.take_succ_cons,List.take_zero,List.drop_succ_cons,List.drop_zero]
    repeat (first
      | (go_big_quiet_want;refine quiet_load_job _ rfl w.heap.size rfl cs HL.out HRG.out ?_;simp only [Act.put,List.setIfInBounds_toArray,List.set_cons_succ,List.set_cons_zero];go_big_quiet_on)
      | go_big_quiet_step (first
        | (go_at_call 17;with_reducible exact Later.call (HT2.out _))
        | (go_at_call 37;with_reducible exact Later.call (HG.out _))))
    refine wpQuiet_nil ?_
    rintro _ ⟨y2,rfl⟩
    have R2:=HR.out.up y2.up
    have B2:=up_trans HB.out y2.up
    clear k6
    have r0:=R2.cell 0 rfl;have r1:=R2.cell 1 rfl;have r2:=R2.cell 2 rfl;have r3:=R2.cell 3 rfl;have rf:=R2.free
    clear R2
    generalize y2.now=w2 at *
    go_wp2
    refine bodyPost_ret (v:=.agg #[.int .i64 g0,.int .i64 g1,.int .i64 g2,.int .i64 g3]) (by simp [results,Try.results18,go_sem,r0,r1,r2,r3]) rfl ⟨rfl,?_⟩
    exact up_set (up_set (up_set (up_set B2 (by simp only;omega) _) (by simp only;omega) _) (by simp only;omega) _) (by simp only;omega) _
  · obtain rfl:0=l:=hl
    obtain rfl:b=r:=hr
    go_enter Try.func18,Try.ntmps18
    go_wp2_with fail
    obtain ⟨w1,hw1⟩:∃ w1,(w.alloc (.cells cs.toArray 29)).alloc (.cells #[.int .i64 0,.int .i64 0,.int .i64 0,.int .i64 0] 37)=w1:=⟨_,rfl⟩
    rw [hw1] at HX HR HB ⊢
    clear hw1
    have k6:=fun y:Later w1=>y.cell (HX.out.cell 6 H6.out)
    have HRG:=Lib.hid (later_range HX.out (by rw [HL.out];decide))
    have HT2:=Lib.hid (fun y:Later w1=>HT.out y.now (up_trans HB.out y.up))
    refine later_start (w:=w1) ?_
    intro y
    refine wp_region_later_tail 10 (by kernel_rfl) (by kernel_rfl) ?_
    simp only [List.take_succ_cons,List.take_zero,List.drop_succ_cons,List.drop_zero]
    repeat (first
      | (go_big_quiet_want;refine quiet_load_job _ rfl w.heap.size rfl cs HL.out HRG.out ?_;simp only [Act.put,List.setIfInBounds_toArray,List.set_cons_succ,List.set_cons_zero];go_big_quiet_on)
      | go_big_quiet_step (first
        | (go_at_call 17;with_reducible exact Later.call (HT2.out _))
        | (go_at_call 37;with_reducible exact Later.call (HG.out _))))
    refine wpQuiet_nil ?_
    rintro _ ⟨y2,rfl⟩
    have R2:=HR.out.up y2.up
    have B2:=up_trans HB.out y2.up
    clear k6
    have r0:=R2.cell 0 rfl;have r1:=R2.cell 1 rfl;have r2:=R2.cell 2 rfl;have r3:=R2.cell 3 rfl;have rf:=R2.free
    clear R2
    generalize y2.now=w2 at *
    go_wp2
    refine bodyPost_ret (v:=.agg #[.int .i64 g0,.int .i64 g1,.int .i64 g2,.int .i64 g3]) (by simp [results,Try.results18,go_sem,r0,r1,r2,r3]) rfl ⟨rfl,?_⟩
    exact up_set (up_set (up_set (up_set B2 (by simp only;omega) _) (by simp only;omega) _) (by simp only;omega) _) (by simp only;omega) _
theorem panClip:PanClip:=fun cs j recto w hj hn=>by
  have h:=hj.numC
  have K:=panClip_core cs (j.n 5) (fromP j.n recto) (j.n 7) (w64 (fromP j.n recto+j.n 3)) (w64 (j.n 7+j.n 4)) _ _ _ _ _ _ recto w hj.length (h 5 (by decide)) rfl rfl (fun w1 hb=>panTrim cs j recto w1 (hj.up hb)) (fun w1=>boxGrow_any _ _ _ _ _ _ _ _ w1)
  refine K.mono ?_
  rintro e w1 ⟨rfl,hb⟩
  refine ⟨?_,hb⟩
  have e1:sum64 (w64 (j.n 7+j.n 4)) (j.n 5)=w64 (j.n 7+j.n 4+j.n 5):=w64_addL _ _
  unfold rcV clipP
  rw [e1]
  cases recto
  · have e2:sum64 (w64 (j.n 8+j.n 3)) 0=w64 (j.n 8+j.n 3):=by
      show w64 (w64 (j.n 8+j.n 3)+0)=_
      rw [w64_addL,Int.add_zero]
    rw [show fromP j.n false=j.n 8 from rfl]
    simp only [Bool.false_eq_true,if_false]
    rw [e2]
    rfl
  · have e2:sum64 (w64 (j.n 9+j.n 3)) (j.n 5)=w64 (j.n 9+j.n 3+j.n 5):=w64_addL _ _
    have e3:dif64 (j.n 9) 0=j.n 9:=by
      show w64 (j.n 9-0)=_
      rw [Int.sub_zero]
      exact w64_self (hn 9)
    rw [show fromP j.n true=j.n 9 from rfl]
    simp only [if_true]
    rw [e2,e3]
    rfl
set_option maxHeartbeats 1000000 in
theorem panSource_core (cs:List Value) (x0 y0 x1 y1 b d q X Y Z:Int) (recto:Bool) (w:World) (hL:cs.length=33) (c2:cs[2]?=some (.int .i64 b)) (c3:cs[3]?=some (.int .i64 d)) (e1:IntKind.i64.wrap (x0-b)=X) (e2:IntKind.i64.wrap (y0-d)=Y) (e3:(if recto=true then IntKind.i64.wrap (X-q) else IntKind.i64.wrap (X+q))=Z)
    (KT:∀ w1,Below w.heap.size w w1→Calls Try.prog 17 #[.agg cs.toArray,.bool recto] w1 fun e w'=>e=.returned (.agg #[.int .i64 x0,.int .i64 y0,.int .i64 x1,.int .i64 y1])∧Below w1.heap.size w1 w') :
    Calls Try.prog 16 #[.agg cs.toArray,.bool recto,.int .i64 q] w fun e w'=>e=.returned (.agg #[.int .i64 0,.int .i64 Z,.int .i64 Y])∧Below w.heap.size w w':=by
  have X1:=Bx.new w 29 cs
  have U1:=up_alloc (Below.refl w.heap.size w) (.cells cs.toArray 29)
  have V1:=up_alloc (Below.refl _ (w.alloc (.cells cs.toArray 29))) (.cells #[.int .i64 0,.int .i64 0,.int .i64 0] 40)
  have R1:=Bx.new (w.alloc (.cells cs.toArray 29)) 40 [.int .i64 0,.int .i64 0,.int .i64 0]
  rw [World.size_alloc] at R1
  have HX:=Lib.hid (X1.later (by rw [hL];decide) V1)
  have HR:=Lib.hid R1
  have HB:=Lib.hid (up_trans U1 V1)
  have HL:=Lib.hid hL;have HT:=Lib.hid KT;have H2:=Lib.hid c2;have H3:=Lib.hid c3;have E3:=Lib.hid e3
  have KM:=Lib.hid (fun w1=>move_any Z Y w1)
  clear X1 U1 V1 R1 hL KT c2 c3 e3
  go_enter Try.func16,Try.ntmps16
  go_wp2_with (refine wpList_load_job rfl _ rfl w.heap.size rfl cs HX.out HL.out ?_;simp only [Act.put,List.setIfInBounds_toArray,List.set_cons_succ,List.set_cons_zero])
  refine (HT.out _ HB.out).mono ?_
  rintro e w1 ⟨rfl,hb⟩
  have U2:=up_alloc (Below.refl _ w1) (.cells #[.int .i64 x0,.int .i64 y0,.int .i64 x1,.int .i64 y1] 37)
  have S2:=Bx.new w1 37 [.int .i64 x0,.int .i64 y0,.int .i64 x1,.int .i64 y1]
  have X2:=(HX.out.later (by rw [HL.out];decide) hb).later (by rw [HL.out];decide) U2
  have HR2:=Lib.hid ((HR.out.up hb).up U2)
  have HB2:=Lib.hid (up_trans (up_trans HB.out hb) U2)
  have hlow:=(HR.out.up hb).lt
  clear hb U2 HX HR HB
  go_wp2_with fail
  obtain ⟨w2,hw2⟩:∃ w2,w1.alloc (.cells #[.int .i64 x0,.int .i64 y0,.int .i64 x1,.int .i64 y1] 37)=w2:=⟨_,rfl⟩
  rw [hw2] at S2 X2 HR2 HB2 ⊢
  clear hw2
  have j2:=fun y:Later w2=>y.cell (X2.cell 2 H2.out);have j3:=fun y:Later w2=>y.cell (X2.cell 3 H3.out)
  have k0:=fun y:Later w2=>y.cell (S2.cell 0 rfl);have k1:=fun y:Later w2=>y.cell (S2.cell 1 rfl)
  clear X2 S2
  refine later_start (w:=w2) ?_
  intro y
  refine wp_region_later (by kernel_rfl) (by kernel_rfl) ?_
  repeat (go_big_quiet_step (fail))
  refine wpQuiet_nil ?_
  rintro _ ⟨y2,rfl⟩
  have HR3:=Lib.hid (HR2.out.up y2.up)
  have HB3:=Lib.hid (up_trans HB2.out y2.up)
  clear j2 j3 k0 k1
  generalize y2.now=w3 at *
  cases recto
  · have e3:IntKind.i64.wrap (X+q)=Z:=E3.out
    go_wp2_with fail
    refine (KM.out _).mono ?_
    rintro e w4 ⟨rfl,hb⟩
    have R4:=HR3.out.up hb
    have B4:=up_trans HB3.out hb
    clear hb
    have r0:=R4.cell 0 rfl;have r1:=R4.cell 1 rfl;have r2:=R4.cell 2 rfl;have rf:=R4.free
    clear R4
    go_wp2
    refine bodyPost_ret (v:=.agg #[.int .i64 0,.int .i64 Z,.int .i64 Y]) (by simp [results,Try.results16,go_sem,r0,r1,r2]) rfl ⟨rfl,?_⟩
    exact up_set (up_set (up_set B4 (by simp only;omega) _) (by simp only;omega) _) (by simp only;omega) _
  · have e3:IntKind.i64.wrap (X-q)=Z:=E3.out
    go_wp2_with fail
    refine (KM.out _).mono ?_
    rintro e w4 ⟨rfl,hb⟩
    have R4:=HR3.out.up hb
    have B4:=up_trans HB3.out hb
    clear hb
    have r0:=R4.cell 0 rfl;have r1:=R4.cell 1 rfl;have r2:=R4.cell 2 rfl;have rf:=R4.free
    clear R4
    go_wp2
    refine bodyPost_ret (v:=.agg #[.int .i64 0,.int .i64 Z,.int .i64 Y]) (by simp [results,Try.results16,go_sem,r0,r1,r2]) rfl ⟨rfl,?_⟩
    exact up_set (up_set (up_set B4 (by simp only;omega) _) (by simp only;omega) _) (by simp only;omega) _
theorem panSource:PanSource:=fun cs j recto q w hj hq=>by
  have h:=hj.numC
  refine panSource_core cs (trimP j.n recto).1 (trimP j.n recto).2.1 (trimP j.n recto).2.2.1 (trimP j.n recto).2.2.2 (j.n 1) (j.n 2) q _ _ _ recto w hj.length (h 1 (by decide)) (h 2 (by decide)) rfl rfl ?_ (fun w1 hb=>panTrim cs j recto w1 (hj.up hb))
  unfold sourceP trimP
  cases recto
  · exact w64_addL _ _
  · show w64 (w64 _-q)=w64 (_+-q)
    rw [w64_subL]
    rfl
set_option maxHeartbeats 1000000 in
theorem panBox_core (cs:List Value) (c r k p m n W H x a1 a2 y x1 y1 o0 o1 o2 o3:Int) (ok:Bool) (sa:Option Addr) (sn sc:Nat) (w:World) (hL:cs.length=33)
    (hv:ok=true→(1≤c∧c≤64)∧p.tmod c=m∧p.tdiv c=n∧(0≤n∧n≤9000)∧(0≤m∧m≤64)∧x=o0∧y=o1∧x1=o2∧y1=o3)
    (hz:ok=false→0=o0∧0=o1∧0=o2∧0=o3)
    (ex:IntKind.i64.wrap (m*W)=x) (e1:IntKind.i64.wrap (k*r)=a1) (e2:IntKind.i64.wrap (a1+n)=a2) (ey:IntKind.i64.wrap (a2*H)=y)
    (KH:∀ w1,Calls Try.prog 26 #[.agg #[.int .i64 c,.int .i64 r,.slice sa sn sc],.int .i64 k,.int .i64 p] w1 fun e w'=>e=.returned (.bool ok)∧Below w1.heap.size w1 w')
    (KS:∀ w1,Below w.heap.size w w1→Calls Try.prog 8 #[.agg cs.toArray] w1 fun e w'=>e=.returned (.tuple #[.int .i64 W,.int .i64 H])∧Below w1.heap.size w1 w')
    (KO:∀ w1,Calls Try.prog 27 #[.int .i64 x,.int .i64 y,.int .i64 W,.int .i64 H] w1 fun e w'=>e=.returned (.agg #[.int .i64 x,.int .i64 y,.int .i64 x1,.int .i64 y1])∧Below w1.heap.size w1 w') :
    Calls Try.prog 10 #[.agg cs.toArray,.agg #[.int .i64 c,.int .i64 r,.slice sa sn sc],.int .i64 k,.int .i64 p] w fun e w'=>e=.returned (.agg #[.int .i64 o0,.int .i64 o1,.int .i64 o2,.int .i64 o3])∧Below w.heap.size w w':=by
  have G0:=JFr.new w hL c r (.slice sa sn sc)
  have U0:=up_alloc (Below.refl _ ((w.alloc (.cells cs.toArray 29)).alloc (.cells #[.int .i64 c,.int .i64 r,.slice sa sn sc] 26))) (.cells #[.int .i64 0,.int .i64 0,.int .i64 0,.int .i64 0] 37)
  have R:=Bx.new ((w.alloc (.cells cs.toArray 29)).alloc (.cells #[.int .i64 c,.int .i64 r,.slice sa sn sc] 26)) 37 [.int .i64 0,.int .i64 0,.int .i64 0,.int .i64 0]
  simp only [World.size_alloc] at R
  have G1:=G0.up hL U0
  have s0:=G1.s.cell 0 rfl;have s1:=G1.s.cell 1 rfl;have s2:=G1.s.cell 2 rfl
  have HG:=Lib.hid G1;have HR:=Lib.hid R
  have HL:=Lib.hid hL;have HH:=Lib.hid KH;have HS:=Lib.hid KS;have HO:=Lib.hid KO;have HV:=Lib.hid hv;have HZ:=Lib.hid hz
  clear hL KH KS KO hv hz G0 G1 U0 R
  go_enter Try.func10,Try.ntmps10
  go_wp2_with fail
  refine (HH.out _).mono ?_
  rintro e w1 ⟨rfl,hb⟩
  have HG1:=Lib.hid (HG.out.up HL.out hb)
  have HR1:=Lib.hid (HR.out.up hb)
  clear hb s0 s1 s2 HG HR
  cases ok
  · obtain ⟨rfl,rfl,rfl,rfl⟩:=HZ.out rfl
    have r0:=HR1.out.cell 0 rfl;have r1:=HR1.out.cell 1 rfl;have r2:=HR1.out.cell 2 rfl;have r3:=HR1.out.cell 3 rfl;have rf:=HR1.out.free
    have B1:=HG1.out.b
    go_wp2
    refine bodyPost_ret (v:=.agg #[.int .i64 0,.int .i64 0,.int .i64 0,.int .i64 0]) (by simp [results,Try.results10,go_sem,r0,r1,r2,r3]) rfl ⟨rfl,?_⟩
    exact up_set (up_set (up_set (up_set B1 (by simp only;omega) _) (by simp only;omega) _) (by simp only;omega) _) (by simp only;omega) _
  · obtain ⟨⟨c1,c2⟩,hm,hq,⟨q1,q2⟩,⟨m1,m2⟩,rfl,rfl,rfl,rfl⟩:=HV.out rfl
    have cz:¬ c=0:=by omega
    have czb:(c==0)=false:=by simp;omega
    go_wp2_with (refine wpList_load_job rfl _ rfl w.heap.size rfl cs HG1.out.x HL.out ?_;simp only [Act.put,List.setIfInBounds_toArray,List.set_cons_succ,List.set_cons_zero])
    refine (HS.out _ HG1.out.b).mono ?_
    rintro e w2 ⟨rfl,hb⟩
    have G2:=HG1.out.up HL.out hb
    have HR2:=Lib.hid (HR1.out.up hb)
    have j0:=fun y:Later w2=>y.cell (G2.s.cell 0 rfl);have j1:=fun y:Later w2=>y.cell (G2.s.cell 1 rfl)
    have HB2:=Lib.hid G2.b
    clear hb G2 HR1 HG1
    go_wp2_with fail
    refine later_start (w:=w2) ?_
    intro y
    refine wp_region_later (by kernel_rfl) (by kernel_rfl) ?_
    repeat (go_big_quiet_step (fail))
    refine wpQuiet_nil ?_
    rintro _ ⟨y2,rfl⟩
    have HR3:=Lib.hid (HR2.out.up y2.up)
    have HB3:=Lib.hid (up_trans HB2.out y2.up)
    clear j0 j1
    generalize y2.now=w3 at *
    go_wp2_with fail
    refine (HO.out _).mono ?_
    rintro e w4 ⟨rfl,hb⟩
    have R4:=HR3.out.up hb
    have B4:=up_trans HB3.out hb
    clear hb
    have r0:=R4.cell 0 rfl;have r1:=R4.cell 1 rfl;have r2:=R4.cell 2 rfl;have r3:=R4.cell 3 rfl;have rf:=R4.free
    clear R4
    go_wp2
    refine bodyPost_ret (v:=.agg #[.int .i64 _,.int .i64 _,.int .i64 _,.int .i64 _]) (by simp [results,Try.results10,go_sem,r0,r1,r2,r3]) rfl ⟨rfl,?_⟩
    exact up_set (up_set (up_set (up_set B4 (by simp only;omega) _) (by simp only;omega) _) (by simp only;omega) _) (by simp only;omega) _
theorem inPan_facts {c r k p:Int} (h:inPan c r k p=true):(1≤c∧c≤64)∧(0≤p.tdiv c∧p.tdiv c≤9000)∧(0≤p.tmod c∧p.tmod c≤64)∧(k=0∨k=1):=by
  unfold inPan at h
  simp only [Bool.and_eq_true,decide_eq_true_eq] at h
  obtain ⟨⟨k0,k1⟩,p0,p1⟩:=h
  unfold panM at p1
  split at p1
  · rename_i hs
    have hp:=pan_in hs
    rw [Bool.and_eq_true] at hs
    have hc:=sideB_true hs.1
    have t1:=Int.tdiv_nonneg p0 (show 0≤c by omega)
    have t2:=Int.tmod_nonneg c p0
    have t3:=Int.tmod_lt_of_pos p (show 0<c by omega)
    have t4:p.tdiv c≤p:=Int.tdiv_le_self c p0
    exact ⟨by omega,by omega,by omega,by omega⟩
  · omega
theorem panBox:PanBox:=fun cs j c r k p sa sn sc w hj hc hr hk hp=>by
  have hs:=fun w1 (hb:Below w.heap.size w w1)=>panSize cs j w1 (hj.up hb)
  refine (panBox_core cs c r k p (p.tmod c) (p.tdiv c) (sizW j.n) (sizH j.n) _ _ _ _ _ _ (boxP j.n c r k p).1 (boxP j.n c r k p).2.1 (boxP j.n c r k p).2.2.1 (boxP j.n c r k p).2.2.2 (inPan c r k p) sa sn sc w hj.length (fun h=>?_) (fun h=>?_) rfl rfl rfl rfl (fun w1=>panHas_any c r k p sa sn sc w1) hs (fun w1=>boxOf_any _ _ _ _ w1))
  · obtain ⟨h1,h2,h3,h4⟩:=inPan_facts h
    refine ⟨h1,rfl,rfl,h2,h3,?_⟩
    have ey:IntKind.i64.wrap (IntKind.i64.wrap (IntKind.i64.wrap (k*r)+p.tdiv c)*sizH j.n)=boxY j.n c r k p:=by
      show w64 (w64 (w64 (k*r)+p.tdiv c)*sizH j.n)=_
      rw [w64_mulL,←w64_mulL,w64_addL,w64_mulL]
      rfl
    rw [ey]
    unfold boxP
    rw [if_pos h]
    exact ⟨rfl,rfl,rfl,rfl⟩
  · unfold boxP
    rw [if_neg (by rw [h];decide)]
    exact ⟨rfl,rfl,rfl,rfl⟩
set_option maxRecDepth 100000 in
set_option maxHeartbeats 2000000 in
theorem panLies_core (cs:List Value) (c r k p lf W H x0 y0 x1 y1 X Y A0 A1 A2 o0 o1 o2:Int) (ok fx fy:Bool) (sa:Option Addr) (sn sc:Nat) (w:World) (hL:cs.length=33)
  (hz:ok=false→0=o0∧0=o1∧0=o2) (ex:IntKind.i64.wrap (-x0)=X) (ey:IntKind.i64.wrap (-y0)=Y)
  (hx:(if fx=true then 4 else 0)=A0∧(fx=false→X=A1∧Y=A2)) (hy:ok=true→fy=false→A0=o0∧A1=o1∧A2=o2)
  (KH:∀ w1,Calls Try.prog 26 #[.agg #[.int .i64 c,.int .i64 r,.slice sa sn sc],.int .i64 k,.int .i64 p] w1 fun e w'=>e=.returned (.bool ok)∧Below w1.heap.size w1 w')
  (KS:∀ w1,Below w.heap.size w w1→Calls Try.prog 8 #[.agg cs.toArray] w1 fun e w'=>e=.returned (.tuple #[.int .i64 W,.int .i64 H])∧Below w1.heap.size w1 w')
  (KB:∀ w1,Below w.heap.size w w1→Calls Try.prog 10 #[.agg cs.toArray,.agg #[.int .i64 c,.int .i64 r,.slice sa sn sc],.int .i64 k,.int .i64 p] w1 fun e w'=>e=.returned (.agg #[.int .i64 x0,.int .i64 y0,.int .i64 x1,.int .i64 y1])∧Below w1.heap.size w1 w')
  (KTX:fx=true→∀ w1,Calls Try.prog 29 #[.agg #[.int .i64 0,.int .i64 X,.int .i64 Y],.agg #[.int .i64 4,.int .i64 W,.int .i64 0]] w1 fun e w'=>e=.returned (.agg #[.int .i64 A0,.int .i64 A1,.int .i64 A2])∧Below w1.heap.size w1 w')
  (KTY:ok=true→fy=true→∀ w1,Calls Try.prog 29 #[.agg #[.int .i64 A0,.int .i64 A1,.int .i64 A2],.agg #[.int .i64 6,.int .i64 0,.int .i64 H]] w1 fun e w'=>e=.returned (.agg #[.int .i64 o0,.int .i64 o1,.int .i64 o2])∧Below w1.heap.size w1 w') :
  Calls Try.prog 11 #[.agg cs.toArray,.agg #[.int .i64 c,.int .i64 r,.slice sa sn sc],.int .i64 k,.int .i64 p,.agg #[.int .i64 lf,.bool fx,.bool fy]] w fun e w'=>e=.returned (.agg #[.int .i64 o0,.int .i64 o1,.int .i64 o2])∧Below w.heap.size w w':=by
 have G0:=JFr.new w hL c r (.slice sa sn sc)
 obtain ⟨v0,hv0⟩:∃ v0,(w.alloc (.cells cs.toArray 29)).alloc (.cells #[.int .i64 c,.int .i64 r,.slice sa sn sc] 26)=v0:=⟨_,rfl⟩
 have hs0:v0.heap.size=w.heap.size+1+1:=by rw [←hv0];simp only [World.size_alloc]
 rw [hv0] at G0
 have P1:=Bx.new v0 31 [.int .i64 lf,.bool fx,.bool fy]
 have V1:=up_alloc (Below.refl _ v0) (.cells #[.int .i64 lf,.bool fx,.bool fy] 31)
 obtain ⟨v1,hv1⟩:∃ v1,v0.alloc (.cells #[.int .i64 lf,.bool fx,.bool fy] 31)=v1:=⟨_,rfl⟩
 have hs1:v1.heap.size=w.heap.size+1+1+1:=by rw [←hv1,World.size_alloc,hs0]
 rw [hv1] at P1 V1
 have R1:=Bx.new v1 40 [.int .i64 0,.int .i64 0,.int .i64 0]
 have V2:=up_alloc (Below.refl _ v1) (.cells #[.int .i64 0,.int .i64 0,.int .i64 0] 40)
 obtain ⟨v2,hv2⟩:∃ v2,v1.alloc (.cells #[.int .i64 0,.int .i64 0,.int .i64 0] 40)=v2:=⟨_,rfl⟩
 rw [hv2] at R1 V2
 have hall:(((w.alloc (.cells cs.toArray 29)).alloc (.cells #[.int .i64 c,.int .i64 r,.slice sa sn sc] 26)).alloc (.cells #[.int .i64 lf,.bool fx,.bool fy] 31)).alloc (.cells #[.int .i64 0,.int .i64 0,.int .i64 0] 40)=v2:=by rw [hv0,hv1,hv2]
 have G2:=(G0.up hL V1).up hL V2
 have P2:=P1.up V2
 rw [hs0] at P2
 rw [hs1] at R1
 have s0:=G2.s.cell 0 rfl;have s1:=G2.s.cell 1 rfl;have s2:=G2.s.cell 2 rfl
 have HG:=Lib.hid G2;have HP:=Lib.hid P2;have HR:=Lib.hid R1
 have HA:=Lib.hid hall;have HL:=Lib.hid hL;have HH:=Lib.hid KH;have HS:=Lib.hid KS;have HBX:=Lib.hid KB;have HTX:=Lib.hid KTX;have HTY:=Lib.hid KTY;have HZ:=Lib.hid hz;have HXX:=Lib.hid hx;have HYY:=Lib.hid hy
 have HM:=Lib.hid (fun w1=>move_any X Y w1);have HFX:=Lib.hid (fun w1=>flipX_any W w1);have HFY:=Lib.hid (fun w1=>flipY_any H w1)
 clear G0 G2 P1 P2 V1 V2 R1 hv0 hv1 hv2 hs0 hs1 hall hL KH KS KB KTX KTY hz hx hy
 go_enter Try.func11,Try.ntmps11
 go_wp2_with (rw [HA.out];fail)
 rw [HA.out]
 go_wp2_with fail
 refine (HH.out _).mono ?_
 rintro e w1 ⟨rfl,hb⟩
 have HG1:=Lib.hid (HG.out.up HL.out hb)
 have HR1:=Lib.hid (HR.out.up hb)
 have HP1:=Lib.hid (HP.out.up hb)
 clear hb s0 s1 s2 HG HR HP HA
 cases ok
 ·obtain ⟨rfl,rfl,rfl⟩:=HZ.out rfl
  have r0:=HR1.out.cell 0 rfl;have r1:=HR1.out.cell 1 rfl;have r2:=HR1.out.cell 2 rfl;have rf:=HR1.out.free
  have B1:=HG1.out.b
  go_wp2
  refine bodyPost_ret (v:=.agg #[.int .i64 0,.int .i64 0,.int .i64 0]) (by simp [results,Try.results11,go_sem,r0,r1,r2]) rfl ⟨rfl,?_⟩
  exact up_set (up_set (up_set B1 (by simp only;omega) _) (by simp only;omega) _) (by simp only;omega) _
 ·have KTY:=HTY.out rfl
  have hy:=HYY.out rfl
  have HTY2:=Lib.hid KTY;have HYY2:=Lib.hid hy
  clear KTY hy HTY HYY HZ
  go_wp2_with (refine wpList_load_job rfl _ rfl w.heap.size rfl cs HG1.out.x HL.out ?_;simp only [Act.put,List.setIfInBounds_toArray,List.set_cons_succ,List.set_cons_zero])
  refine (HS.out _ HG1.out.b).mono ?_
  rintro e w2 ⟨rfl,hb⟩
  have HG2:=Lib.hid (HG1.out.up HL.out hb)
  have HR2:=Lib.hid (HR1.out.up hb)
  have HP2:=Lib.hid (HP1.out.up hb)
  have s0:=HG2.out.s.cell 0 rfl;have s1:=HG2.out.s.cell 1 rfl;have s2:=HG2.out.s.cell 2 rfl
  clear hb HG1 HR1 HP1
  go_wp2_with (refine wpList_load_job rfl _ rfl w.heap.size rfl cs HG2.out.x HL.out ?_;simp only [Act.put,List.setIfInBounds_toArray,List.set_cons_succ,List.set_cons_zero])
  refine (HBX.out _ HG2.out.b).mono ?_
  rintro e w3 ⟨rfl,hb⟩
  have U3:=up_alloc (Below.refl _ w3) (.cells #[.int .i64 x0,.int .i64 y0,.int .i64 x1,.int .i64 y1] 37)
  have S3:=Bx.new w3 37 [.int .i64 x0,.int .i64 y0,.int .i64 x1,.int .i64 y1]
  have HR3:=Lib.hid ((HR2.out.up hb).up U3)
  have HP3:=Lib.hid ((HP2.out.up hb).up U3)
  have HB3:=Lib.hid (up_trans (up_trans HG2.out.b hb) U3)
  have k0:=S3.cell 0 rfl;have k1:=S3.cell 1 rfl
  clear hb U3 S3 s0 s1 s2 HG2 HR2 HP2
  go_wp2_with fail
  obtain ⟨w4,hw4⟩:∃ w4,w3.alloc (.cells #[.int .i64 x0,.int .i64 y0,.int .i64 x1,.int .i64 y1] 37)=w4:=⟨_,rfl⟩
  rw [hw4] at HR3 HP3 HB3 ⊢
  clear hw4 k0 k1
  refine (HM.out _).mono ?_
  rintro e w5 ⟨rfl,hb⟩
  have U5:=up_alloc (Below.refl _ w5) (.cells #[.int .i64 0,.int .i64 X,.int .i64 Y] 40)
  have S5:=Bx.new w5 40 [.int .i64 0,.int .i64 X,.int .i64 Y]
  have hlow:=(HR3.out.up hb).lt
  have HS6:=Lib.hid S5
  have HR6:=Lib.hid ((HR3.out.up hb).up U5)
  have HP6:=Lib.hid ((HP3.out.up hb).up U5)
  have HB6:=Lib.hid (up_trans (up_trans HB3.out hb) U5)
  have p1:=HP6.out.cell 1 rfl
  clear hb U5 S5 HR3 HP3 HB3
  go_upto_if 39 with fail
  obtain ⟨w6,hw6⟩:∃ w6,w5.alloc (.cells #[.int .i64 0,.int .i64 X,.int .i64 Y] 40)=w6:=⟨_,rfl⟩
  rw [hw6] at HS6 HR6 HP6 HB6 p1 ⊢
  clear hw6 p1
  cases fx
  ·obtain ⟨e0,hxx⟩:=HXX.out
   obtain rfl:0=A0:=e0
   obtain ⟨rfl,rfl⟩:=hxx rfl
   obtain ⟨w7,hw7⟩:∃ w7,w7=w6:=⟨_,rfl⟩
   subst hw7
   have HS7:=HS6;have HR7:=HR6;have HP7:=HP6;have HB7:=HB6
   clear HTX HXX HS6 HR6 HP6 HB6
   have p2:=HP7.out.cell 2 rfl
   go_upto_if 45 with fail
   clear p2
   cases fy
   ·obtain ⟨rfl,rfl,rfl⟩:=HYY2.out rfl
    have s0:=HS7.out.cell 0 rfl;have s1:=HS7.out.cell 1 rfl;have s2:=HS7.out.cell 2 rfl
    have r0:=HR7.out.cell 0 rfl;have r1:=HR7.out.cell 1 rfl;have r2:=HR7.out.cell 2 rfl;have rf:=HR7.out.free
    have R9:=HR7.out.set3 (.int .i64 0) (.int .i64 X) (.int .i64 Y)
    have p0:=Lib.hid (R9.cell 0 rfl);have p1:=Lib.hid (R9.cell 1 rfl);have p2:=Lib.hid (R9.cell 2 rfl)
    clear R9
    go_wp2
    have q0:=p0.out;have q1:=p1.out;have q2:=p2.out
    refine bodyPost_ret (v:=.agg #[.int .i64 0,.int .i64 X,.int .i64 Y]) (by simp [results,Try.results11,go_sem,q0,q1,q2]) rfl ⟨rfl,?_⟩
    exact up_set (up_set (up_set HB7.out (by simp only;omega) _) (by simp only;omega) _) (by simp only;omega) _
   ·have KTY:=HTY2.out rfl
    have HTY3:=Lib.hid KTY
    clear KTY HTY2 HYY2
    go_wp2_with fail
    have k0:=fun u:Later w7=>u.cell (HS7.out.cell 0 rfl);have k1:=fun u:Later w7=>u.cell (HS7.out.cell 1 rfl);have k2:=fun u:Later w7=>u.cell (HS7.out.cell 2 rfl)
    refine later_start (w:=w7) ?_
    intro u
    refine wp_region_later_tail 4 (by kernel_rfl) (by kernel_rfl) ?_
    simp only [List.take_succ_cons,List.take_zero,List.drop_succ_cons,List.drop_zero]
    repeat (go_big_quiet_step (first
     | (go_at_call 31;with_reducible exact Later.call (HFY.out _))
     | (go_at_call 29;with_reducible exact Later.call (HTY3.out _))))
    refine wpQuiet_nil ?_
    rintro _ ⟨u2,rfl⟩
    have S8:=HS7.out.up u2.up
    have R8:=HR7.out.up u2.up
    have B8:=Lib.hid (up_trans HB7.out u2.up)
    clear k0 k1 k2
    generalize u2.now=w8 at *
    have S9:=S8.set3 (.int .i64 o0) (.int .i64 o1) (.int .i64 o2)
    have R9:=((R8.far (p:=⟨w5.heap.size,0,none⟩) (by simp only;omega) (.int .i64 o0)).far (p:=⟨w5.heap.size,1,none⟩) (by simp only;omega) (.int .i64 o1)).far (p:=⟨w5.heap.size,2,none⟩) (by simp only;omega) (.int .i64 o2)
    have R10:=R9.set3 (.int .i64 o0) (.int .i64 o1) (.int .i64 o2)
    have s0:=S8.cell 0 rfl;have s1:=S8.cell 1 rfl;have s2:=S8.cell 2 rfl;have sf:=S8.free
    have t0:=S9.cell 0 rfl;have t1:=S9.cell 1 rfl;have t2:=S9.cell 2 rfl
    have r0:=R9.cell 0 rfl;have r1:=R9.cell 1 rfl;have r2:=R9.cell 2 rfl;have rf:=R9.free
    have p0:=Lib.hid (R10.cell 0 rfl);have p1:=Lib.hid (R10.cell 1 rfl);have p2:=Lib.hid (R10.cell 2 rfl)
    clear S8 S9 R8 R9 R10
    go_wp2
    have q0:=p0.out;have q1:=p1.out;have q2:=p2.out
    refine bodyPost_ret (v:=.agg #[.int .i64 o0,.int .i64 o1,.int .i64 o2]) (by simp [results,Try.results11,go_sem,q0,q1,q2]) rfl ⟨rfl,?_⟩
    exact up_set (up_set (up_set (up_set (up_set (up_set B8.out (by simp only;omega) _) (by simp only;omega) _) (by simp only;omega) _) (by simp only;omega) _) (by simp only;omega) _) (by simp only;omega) _
  ·have KTX:=HTX.out rfl
   have HTX2:=Lib.hid KTX
   clear KTX HTX HXX
   go_wp2_with fail
   have k0:=fun u:Later w6=>u.cell (HS6.out.cell 0 rfl);have k1:=fun u:Later w6=>u.cell (HS6.out.cell 1 rfl);have k2:=fun u:Later w6=>u.cell (HS6.out.cell 2 rfl)
   refine later_start (w:=w6) ?_
   intro u
   refine wp_region_later_tail 4 (by kernel_rfl) (by kernel_rfl) ?_
   simp only [List.take_succ_cons,List.take_zero,List.drop_succ_cons,List.drop_zero]
   repeat (go_big_quiet_step (first
    | (go_at_call 30;with_reducible exact Later.call (HFX.out _))
    | (go_at_call 29;with_reducible exact Later.call (HTX2.out _))))
   refine wpQuiet_nil ?_
   rintro _ ⟨u2,rfl⟩
   have S8:=HS6.out.up u2.up
   have R8:=HR6.out.up u2.up
   have P8:=HP6.out.up u2.up
   have B8:=up_trans HB6.out u2.up
   clear k0 k1 k2
   generalize u2.now=w8 at *
   have HS7:=Lib.hid (S8.set3 (.int .i64 A0) (.int .i64 A1) (.int .i64 A2))
   have HR7:=Lib.hid (((R8.far (p:=⟨w5.heap.size,0,none⟩) (by simp only;omega) (.int .i64 A0)).far (p:=⟨w5.heap.size,1,none⟩) (by simp only;omega) (.int .i64 A1)).far (p:=⟨w5.heap.size,2,none⟩) (by simp only;omega) (.int .i64 A2))
   have HP7:=Lib.hid (((P8.far (p:=⟨w5.heap.size,0,none⟩) (by simp only;omega) (.int .i64 A0)).far (p:=⟨w5.heap.size,1,none⟩) (by simp only;omega) (.int .i64 A1)).far (p:=⟨w5.heap.size,2,none⟩) (by simp only;omega) (.int .i64 A2))
   have HB7:=Lib.hid (up_set (up_set (up_set B8 (p:=⟨w5.heap.size,0,none⟩) (by simp only;omega) (.int .i64 A0)) (p:=⟨w5.heap.size,1,none⟩) (by simp only;omega) (.int .i64 A1)) (p:=⟨w5.heap.size,2,none⟩) (by simp only;omega) (.int .i64 A2))
   have s0:=S8.cell 0 rfl;have s1:=S8.cell 1 rfl;have s2:=S8.cell 2 rfl;have sf:=S8.free
   clear S8 R8 P8 B8
   have p2:=HP7.out.cell 2 rfl
   go_upto_if 45 with fail
   clear p2 s0 s1 s2 sf
   obtain ⟨w7,hw7⟩:∃ w7,((w8.setCell ⟨w5.heap.size,0,none⟩ (.int .i64 A0)).setCell ⟨w5.heap.size,1,none⟩ (.int .i64 A1)).setCell ⟨w5.heap.size,2,none⟩ (.int .i64 A2)=w7:=⟨_,rfl⟩
   rw [hw7] at HS7 HR7 HP7 HB7 ⊢
   clear hw7
   cases fy
   ·obtain ⟨rfl,rfl,rfl⟩:=HYY2.out rfl
    have s0:=HS7.out.cell 0 rfl;have s1:=HS7.out.cell 1 rfl;have s2:=HS7.out.cell 2 rfl
    have r0:=HR7.out.cell 0 rfl;have r1:=HR7.out.cell 1 rfl;have r2:=HR7.out.cell 2 rfl;have rf:=HR7.out.free
    have R9:=HR7.out.set3 (.int .i64 A0) (.int .i64 A1) (.int .i64 A2)
    have p0:=Lib.hid (R9.cell 0 rfl);have p1:=Lib.hid (R9.cell 1 rfl);have p2:=Lib.hid (R9.cell 2 rfl)
    clear R9
    go_wp2
    have q0:=p0.out;have q1:=p1.out;have q2:=p2.out
    refine bodyPost_ret (v:=.agg #[.int .i64 A0,.int .i64 A1,.int .i64 A2]) (by simp [results,Try.results11,go_sem,q0,q1,q2]) rfl ⟨rfl,?_⟩
    exact up_set (up_set (up_set HB7.out (by simp only;omega) _) (by simp only;omega) _) (by simp only;omega) _
   ·have KTY:=HTY2.out rfl
    have HTY3:=Lib.hid KTY
    clear KTY HTY2 HYY2
    go_wp2_with fail
    have k0:=fun u:Later w7=>u.cell (HS7.out.cell 0 rfl);have k1:=fun u:Later w7=>u.cell (HS7.out.cell 1 rfl);have k2:=fun u:Later w7=>u.cell (HS7.out.cell 2 rfl)
    refine later_start (w:=w7) ?_
    intro u
    refine wp_region_later_tail 4 (by kernel_rfl) (by kernel_rfl) ?_
    simp only [List.take_succ_cons,List.take_zero,List.drop_succ_cons,List.drop_zero]
    repeat (go_big_quiet_step (first
     | (go_at_call 31;with_reducible exact Later.call (HFY.out _))
     | (go_at_call 29;with_reducible exact Later.call (HTY3.out _))))
    refine wpQuiet_nil ?_
    rintro _ ⟨u2,rfl⟩
    have S8:=HS7.out.up u2.up
    have R8:=HR7.out.up u2.up
    have B8:=Lib.hid (up_trans HB7.out u2.up)
    clear k0 k1 k2
    generalize u2.now=w8 at *
    have S9:=S8.set3 (.int .i64 o0) (.int .i64 o1) (.int .i64 o2)
    have R9:=((R8.far (p:=⟨w5.heap.size,0,none⟩) (by simp only;omega) (.int .i64 o0)).far (p:=⟨w5.heap.size,1,none⟩) (by simp only;omega) (.int .i64 o1)).far (p:=⟨w5.heap.size,2,none⟩) (by simp only;omega) (.int .i64 o2)
    have R10:=R9.set3 (.int .i64 o0) (.int .i64 o1) (.int .i64 o2)
    have s0:=S8.cell 0 rfl;have s1:=S8.cell 1 rfl;have s2:=S8.cell 2 rfl;have sf:=S8.free
    have t0:=S9.cell 0 rfl;have t1:=S9.cell 1 rfl;have t2:=S9.cell 2 rfl
    have r0:=R9.cell 0 rfl;have r1:=R9.cell 1 rfl;have r2:=R9.cell 2 rfl;have rf:=R9.free
    have p0:=Lib.hid (R10.cell 0 rfl);have p1:=Lib.hid (R10.cell 1 rfl);have p2:=Lib.hid (R10.cell 2 rfl)
    clear S8 S9 R8 R9 R10
    go_wp2
    have q0:=p0.out;have q1:=p1.out;have q2:=p2.out
    refine bodyPost_ret (v:=.agg #[.int .i64 o0,.int .i64 o1,.int .i64 o2]) (by simp [results,Try.results11,go_sem,q0,q1,q2]) rfl ⟨rfl,?_⟩
    exact up_set (up_set (up_set (up_set (up_set (up_set B8.out (by simp only;omega) _) (by simp only;omega) _) (by simp only;omega) _) (by simp only;omega) _) (by simp only;omega) _) (by simp only;omega) _
theorem flip_x (x y s:Int):pdo 4 s 0 (w64 (-x)) (w64 (-y))=(w64 (x+s),w64 (-y)):=by
 show (w64 (w64 (-w64 (-x))+s),w64 (w64 (-y)+0))=_
 rw [w64_addL,w64_addL,Int.add_zero,w64_same (x:=-w64 (-x)+s) (y:=x+s) (by have:=w64_rounds (-x);omega)]
theorem flip_y (x y s:Int) (h:I64 x):pdo 6 0 s x (w64 (-y))=(x,w64 (y+s)):=by
 show (w64 (x+0),w64 (w64 (-w64 (-y))+s))=_
 rw [w64_addL,Int.add_zero,w64_self h,w64_same (x:=-w64 (-y)+s) (y:=y+s) (by have:=w64_rounds (-y);omega)]
theorem panLies:PanLies:=fun cs j c r k p lf sa sn sc fx fy w hj hc hr hk hp=>by
 have hs:=fun w1 (hb:Below w.heap.size w w1)=>panSize cs j w1 (hj.up hb)
 have hbx:=fun w1 (hb:Below w.heap.size w w1)=>panBox cs j c r k p sa sn sc w1 (hj.up hb) hc hr hk hp
 obtain ⟨b,hb⟩:∃ b,boxP j.n c r k p=b:=⟨_,rfl⟩
 rw [hb] at hbx
 have iX:=w64_in (-b.1)
 have iY:=w64_in (-b.2.1)
 have hl:inPan c r k p=true→liesP j.n c r k p fx fy=(flipT fx fy,if fx=true then w64 (b.1+sizW j.n) else w64 (-b.1),if fy=true then w64 (b.2.1+sizH j.n) else w64 (-b.2.1)):=by
  intro h
  rw [←hb]
  unfold liesP boxP
  rw [if_pos h,if_pos h]
 have hz:inPan c r k p=false→liesP j.n c r k p fx fy=(0,0,0):=by
  intro h
  unfold liesP
  rw [if_neg (by rw [h];decide)]
 refine panLies_core cs c r k p lf (sizW j.n) (sizH j.n) b.1 b.2.1 b.2.2.1 b.2.2.2 (w64 (-b.1)) (w64 (-b.2.1)) (if fx=true then 4 else 0) (if fx=true then w64 (b.1+sizW j.n) else w64 (-b.1)) (w64 (-b.2.1)) (liesP j.n c r k p fx fy).1 (liesP j.n c r k p fx fy).2.1 (liesP j.n c r k p fx fy).2.2
  (inPan c r k p) fx fy sa sn sc w hj.length (fun h=>?_) rfl rfl ⟨rfl,fun h=>?_⟩ (fun h hy=>?_) (fun w1=>panHas_any c r k p sa sn sc w1) hs hbx (fun h w1=>?_) (fun h hy w1=>?_)
 ·rw [hz h]
  exact ⟨rfl,rfl,rfl⟩
 ·rw [h]
  exact ⟨rfl,rfl⟩
 ·rw [hl h,hy]
  exact ⟨by cases fx<;>rfl,rfl,rfl⟩
 ·have K:=pthen_any 0 (w64 (-b.1)) (w64 (-b.2.1)) 4 (sizW j.n) 0 w1 iX.1 iX.2 iY.1 iY.2
  rw [flip_x,show thenT 0 4=4 by decide] at K
  rw [h]
  exact K
 ·have iA:I64 (if fx=true then w64 (b.1+sizW j.n) else w64 (-b.1)):=by split<;>exact w64_in _
  have K:=pthen_any (if fx=true then 4 else 0) (if fx=true then w64 (b.1+sizW j.n) else w64 (-b.1)) (w64 (-b.2.1)) 6 0 (sizH j.n) w1 iA.1 iA.2 iY.1 iY.2
  rw [flip_y _ _ _ iA,show thenT (if fx=true then 4 else 0) 6=flipT fx true by cases fx<;>decide] at K
  rw [hl h,hy]
  exact K
end Go.Proofs.Ytnmmmedflmdpbaa
