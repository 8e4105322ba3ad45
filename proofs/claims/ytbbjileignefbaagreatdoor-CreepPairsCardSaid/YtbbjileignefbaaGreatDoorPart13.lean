/- Part 13 of the texts that the proofs of this seat share: RefSplitLast, LiG, RefSplitOf, RefOrder, OpenJob, OrderSpec, SplitEnd, CallOrder. -/
import Derived.Test.YtbbjileignefbaaGreatDoorPart11
import Derived.Test.YtbbjileignefbaaGreatDoorPart12
import Derived.Test.YtbbjileignefbaaGreatDoorPart3
import Derived.Test.YtbbjileignefbaaGreatDoorPart10
import Derived.Test.YtbbjileignefbaaGreatDoorPart9
import Derived.SliceStrings
import Derived.Test.YtbbjileignefbaaGreatDoorPart1
import Derived.Deep.RegionHeld3
import Derived.BigQuiet
set_option linter.unusedSimpArgs false
set_option linter.unusedVariables false
namespace Go.Proofs.YtbbjileignefbaaGreatDoor
open Go.RowKit
set_option maxHeartbeats 2000000 in
theorem refSpLast_out (cs:List Value) (b:Int) (a:Option Addr) (k cap:Nat) (t1 t2 t3 t4:Bool) (w:World) (h11:cs[11]?=some (.int .i64 b)) (h15:cs[15]?=some (.slice a k cap))
  (e1:decide ((4:Int)<(k:Int))=t1) (f1:decide (4<k)=t1) (e2:decide ((0:Int)<(k:Int))=t2) (f2:decide (0<k)=t2) (e3:decide (3≤b)=t3) (e4:decide (b≤4)=t4)
  (h:(t1 || (t2&&t3&&t4))=true) :
  Calls Tryz.prog 31 #[.agg cs.toArray] w fun e w'=>e=.returned (.bool false)∧Below w.heap.size w w':=by
 have HX:=Bx.new w 29 cs
 have HB:=Lib.hid (up_alloc (Below.refl w.heap.size w) (.cells cs.toArray 29))
 have c11:=HX.cell 11 h11;have c15:=HX.cell 15 h15
 have HH:=Lib.hid h
 clear h HX h11 h15
 generalize cs.toArray=ca at *
 cases t1
 ·cases t2
  ·exact absurd HH.out (by simp)
  ·cases t3
   ·exact absurd HH.out (by simp)
   ·cases t4
    ·exact absurd HH.out (by simp)
    ·go_enter Tryz.func31,Tryz.ntmps31
     go_wp2
     go_ret
     exact ⟨rfl,HB.out⟩
 ·go_enter Tryz.func31,Tryz.ntmps31
  go_wp2
  go_ret
  exact ⟨rfl,HB.out⟩
def NameE (E:List UInt8→Bool) (b q:Int) (nm:List UInt8):Prop :=
 E nm=((findM nm).isSome&&(!(decide (q≤panM ((findM nm).getD zeroSc).c ((findM nm).getD zeroSc).r))&&(!(b==1) || nestM ((findM nm).getD zeroSc).c (pcR ((findM nm).getD zeroSc)))))
set_option maxRecDepth 100000 in
set_option maxHeartbeats 4000000 in
theorem refSpLast_in (cs:List Value) (b c r q:Int) (a a0:Option Addr) (n cap0 k cap:Nat) (ls:List (List UInt8)) (E:List UInt8→Bool) (t2 t3 t4 v:Bool) (w:World) (hL:cs.length=33) (h11:cs[11]?=some (.int .i64 b)) (h12:cs[12]?=some (.int .i64 c)) (h13:cs[13]?=some (.int .i64 r)) (h14:cs[14]?=some (.slice a0 n cap0)) (h15:cs[15]?=some (.slice a k cap))
  (hk:ls.length=k) (hT:TxA w a cap ls) (hE:∀ x,NameE E b q x) (hv:(b==1)=v)
  (e1:decide ((4:Int)<(k:Int))=false) (f1:decide (4<k)=false) (e2:decide ((0:Int)<(k:Int))=t2) (f2:decide (0<k)=t2) (e3:decide (3≤b)=t3) (e4:decide (b≤4)=t4)
  (h:(t2&&t3&&t4)=false)
  (KQ:∀ w1,Calls Tryz.prog 19 #[.agg #[.int .i64 c,.int .i64 r,.slice a0 n cap0]] w1 fun e w'=>e=.returned (.int .i64 q)∧Below w1.heap.size w1 w') :
  Calls Tryz.prog 31 #[.agg cs.toArray] w fun e w'=>e=.returned (.bool (ls.all E))∧Below w.heap.size w w':=by
 have HX:=Lib.hid (Bx.new w 29 cs)
 have HB:=Lib.hid (up_alloc (Below.refl w.heap.size w) (.cells cs.toArray 29))
 have c11:=HX.out.cell 11 h11;have c12:=HX.out.cell 12 h12;have c13:=HX.out.cell 13 h13;have c14:=HX.out.cell 14 h14;have c15:=HX.out.cell 15 h15
 have HA:=Lib.hid (hT.up HB.out)
 have HN:=Lib.hid hk;have HE:=Lib.hid hE;have HQ:=Lib.hid KQ;have HH:=Lib.hid h
 have hk4:k≤4:=by simp only [decide_eq_false_iff_not] at f1;omega
 clear h hT hk hE KQ h11 h12 h13 h14 h15
 go_enter Tryz.func31,Tryz.ntmps31
 cases t2<;>cases t3<;>cases t4<;>first | (exact absurd HH.out (by decide)) | skip
 all_goals
  clear HH
  go_wp2
  obtain ⟨w1,hw1⟩:∃ w1,w.alloc (.cells cs.toArray 29)=w1:=⟨_,rfl⟩
  rw [hw1] at c11 c12 c13 c14 c15 HA HB HX ⊢
  clear hw1 e1 f1 e2 f2 e3 e4
  have j11:=fun x:Later w1=>x.cell c11
  have j12:=fun x:Later w1=>x.cell c12
  have j13:=fun x:Later w1=>x.cell c13
  have j14:=fun x:Later w1=>x.cell c14
  have j15:=Lib.hid (fun x:Later w1=>x.cell c15)
  clear c11 c12 c13 c14 c15
  go_loopw [3] (fun i wr=>∃ j:Nat,j≤k∧i=.int .i64 (j:Int)∧Hid ((ls.take j).all E=true)∧∃ y:Later w1,wr=y.now) (fun i _=>k-(intOf i).toNat)
  case atStart=>exact ⟨0,by omega,by go_num,Lib.hid rfl,⟨w1,Below.refl _ _⟩,rfl⟩
  case round =>
   obtain ⟨j,hj,rfl,HS,y,rfl⟩:=hrel
   have d15:=j15.out y
   by_cases hlt:j<k
   ·obtain ⟨z,hx⟩:∃ x,ls[j]?=some x:=⟨ls[j]'(by rw [HN.out];exact hlt),List.getElem?_eq_getElem _⟩
    obtain ⟨g,o,rfl,hc,-,-⟩:=HA.out.resolve_left (by rintro rfl;cases hx)
    have hcx:=y.cell (hc j z hx)
    have z0:(0:Int)≤(j:Int):=by omega
    have z3:(j:Int)<(k:Int):=by omega
    have htk:=Lib.hid (take_next hx)
    have HZ:=Lib.hid (List.mem_of_getElem? hx)
    have HF:=Lib.hid (refFind_any z y.now)
    obtain ⟨g1,g2,g3⟩:=found_bounds z
    have hez:=HE.out z
    unfold NameE at hez
    unfold GivesS at HF
    have HNe:=Lib.hid (fun a1 k1 w1 hI1=>refNests_any ((findM z).getD zeroSc) a1 k1 w1 g1 g2 (by omega) hI1)
    have HP:=Lib.hid (fun a1 k1 w1=>refPanels_any ((findM z).getD zeroSc).c ((findM z).getD zeroSc).r a1 ((findM z).getD zeroSc).l.length k1 w1)
    generalize (findM z).getD zeroSc=t at *
    generalize nestM t.c (pcR t)=V at *
    generalize panM t.c t.r=p at *
    generalize (findM z).isSome=fb at *
    generalize tx z=Z at *
    obtain ⟨u,hu⟩:∃ u,decide (q≤p)=u:=⟨_,rfl⟩
    rw [hu,hv] at hez
    have HEZ:=Lib.hid hez
    clear hx hc hez g1 g2 g3
    go_wp2_with fail
    refine HF.out.mono ?_
    rintro e w3 ⟨a3,c3,rfl,hF,hb⟩
    have S:=Bx.new w3 26 [.int .i64 t.c,.int .i64 t.r,.slice a3 t.l.length c3]
    have U:=up_alloc (Below.refl w3.heap.size w3) (.cells #[.int .i64 t.c,.int .i64 t.r,.slice a3 t.l.length c3] 26)
    have B4:=Lib.hid (up_trans y.up (up_trans hb U))
    have HI4:=Lib.hid (hF.inL.up U)
    clear hb U hF hcx d15
    go_wp2_with fail
    obtain ⟨w4,hw4⟩:∃ w4,w3.alloc (.cells #[.int .i64 t.c,.int .i64 t.r,.slice a3 t.l.length c3] 26)=w4:=⟨_,rfl⟩
    rw [hw4] at S B4 HI4 ⊢
    clear hw4
    have i0:=fun x:Later w4=>x.cell (S.cell 0 rfl)
    have i1:=fun x:Later w4=>x.cell (S.cell 1 rfl)
    have i2:=fun x:Later w4=>x.cell (S.cell 2 rfl)
    have i11:=fun x:Later w4=>x.cell (j11 ⟨w4,B4.out⟩)
    have i12:=fun x:Later w4=>x.cell (j12 ⟨w4,B4.out⟩)
    have i13:=fun x:Later w4=>x.cell (j13 ⟨w4,B4.out⟩)
    have i14:=fun x:Later w4=>x.cell (j14 ⟨w4,B4.out⟩)
    clear S
    cases fb
    ·have hno:=all_not HZ.out (show E z=false from HEZ.out)
     have HNO:=Lib.hid hno
     clear hno hu hv i0 i1 i2 i11 i12 i13 i14
     refine later_start (w:=w4) ?_
     intro x
     refine wp_region_later (by kernel_rfl) (by kernel_rfl) ?_
     repeat (go_big_quiet_step (fail))
     refine wpQuiet_nil ?_
     rintro _ ⟨x2,rfl⟩
     go_wp2
     go_ret
     exact ⟨by rw [HNO.out];rfl,up_trans (up_trans HB.out B4.out) x2.up⟩
    cases u
    ·cases v
     ·have HY:=Lib.hid (show E z=true from HEZ.out)
      refine later_start (w:=w4) ?_
      intro x
      refine wp_region_later (by kernel_rfl) (by kernel_rfl) ?_
      repeat (go_big_quiet_step ((go_at_call 19;first | with_reducible exact Later.call (HP.out _ _ _) | with_reducible exact Later.call (HQ.out _))))
      refine wpQuiet_nil ?_
      rintro _ ⟨x2,rfl⟩
      clear i0 i1 i2 i11 i12 i13 i14
      go_wp2
      go_roundw
      case rel=>exact ⟨j+1,by omega,by go_num,Lib.hid (by rw [htk.out];exact all_snoc HS.out HY.out),⟨x2.now,up_trans B4.out x2.up⟩,rfl⟩
      case measure=>simp [intOf];omega
     ·refine later_start (w:=w4) ?_
      intro x
      cases V
      ·have HNO:=Lib.hid (all_not HZ.out (show E z=false from HEZ.out))
       refine wp_region_later (by kernel_rfl) (by kernel_rfl) ?_
       repeat (go_big_quiet_step ((first | (go_at_call 19;first | with_reducible exact Later.call (HP.out _ _ _) | with_reducible exact Later.call (HQ.out _)) | (go_at_call 48;with_reducible exact Later.call (HNe.out _ _ _ (HI4.out.up (Later.up _)))))))
       refine wpQuiet_nil ?_
       rintro _ ⟨x2,rfl⟩
       clear i0 i1 i2 i11 i12 i13 i14
       go_wp2
       go_ret
       exact ⟨by rw [HNO.out];rfl,up_trans (up_trans HB.out B4.out) x2.up⟩
      ·have HY:=Lib.hid (show E z=true from HEZ.out)
       refine wp_region_later (by kernel_rfl) (by kernel_rfl) ?_
       repeat (go_big_quiet_step ((first | (go_at_call 19;first | with_reducible exact Later.call (HP.out _ _ _) | with_reducible exact Later.call (HQ.out _)) | (go_at_call 48;with_reducible exact Later.call (HNe.out _ _ _ (HI4.out.up (Later.up _)))))))
       refine wpQuiet_nil ?_
       rintro _ ⟨x2,rfl⟩
       clear i0 i1 i2 i11 i12 i13 i14
       go_wp2
       go_roundw
       case rel=>exact ⟨j+1,by omega,by go_num,Lib.hid (by rw [htk.out];exact all_snoc HS.out HY.out),⟨x2.now,up_trans B4.out x2.up⟩,rfl⟩
       case measure=>simp [intOf];omega
    ·have HNO:=Lib.hid (all_not HZ.out (show E z=false from HEZ.out))
     refine later_start (w:=w4) ?_
     intro x
     refine wp_region_later (by kernel_rfl) (by kernel_rfl) ?_
     repeat (go_big_quiet_step ((go_at_call 19;first | with_reducible exact Later.call (HP.out _ _ _) | with_reducible exact Later.call (HQ.out _))))
     refine wpQuiet_nil ?_
     rintro _ ⟨x2,rfl⟩
     clear i0 i1 i2 i11 i12 i13 i14
     go_wp2
     go_ret
     exact ⟨by rw [HNO.out];rfl,up_trans (up_trans HB.out B4.out) x2.up⟩
   ·obtain rfl:j=k:=by omega
    have hall:ls.take j=ls:=List.take_of_length_le (by rw [HN.out];omega)
    have HHa:=Lib.hid (hall ▸ HS.out)
    clear hall
    go_wp2
    go_ret
    exact ⟨by rw [HHa.out];rfl,up_trans HB.out y.up⟩
theorem refSpLast_any (cs:List Value) (j:Jb) (w:World) (h:JobA w cs j) :
  Calls Tryz.prog 31 #[.agg cs.toArray] w fun e w'=>e=.returned (.bool (endsM j))∧Below w.heap.size w w':=by
 obtain ⟨a,c,a',c',h12,h13,h14,h15,hI,hT⟩:=h.cells
 have h11:=h.num (k:=10) (by decide)
 have n1:∀ k:Nat,decide ((4:Int)<(k:Int))=decide (4<k):=fun k=>by rw [Bool.eq_iff_iff];simp;omega
 have n2:∀ k:Nat,decide ((0:Int)<(k:Int))=decide (0<k):=fun k=>by rw [Bool.eq_iff_iff];simp
 by_cases ho:(decide (4<j.ls.length) || (decide (0<j.ls.length)&&decide (3≤j.n 10)&&decide (j.n 10≤4)))=true
 ·have he:endsM j=false:=by
   unfold endsM mostM
   rw [Bool.and_eq_false_iff,decide_eq_false_iff_not]
   simp only [Bool.or_eq_true,Bool.and_eq_true,decide_eq_true_eq] at ho
   left
   split<;>omega
  rw [he]
  exact refSpLast_out cs _ a' _ c' _ _ _ _ w h11 h15 (n1 _) rfl (n2 _) rfl rfl rfl ho
 ·have ho1:decide (4<j.ls.length)=false:=by
   cases hq:decide (4<j.ls.length) with
   | false=>rfl
   | true=>rw [hq] at ho;simp at ho
  have ho2:(decide (0<j.ls.length)&&decide (3≤j.n 10)&&decide (j.n 10≤4))=false:=by
   rw [ho1] at ho
   simpa using ho
  have he:endsM j=j.ls.all (endB (j.n 10) (panS j.f)):=by
   unfold endsM
   have:decide (j.ls.length≤mostM (j.n 10))=true:=by
    unfold mostM
    rw [decide_eq_true_eq]
    simp only [decide_eq_false_iff_not] at ho1
    rw [Bool.and_eq_false_iff,Bool.and_eq_false_iff] at ho2
    simp only [decide_eq_false_iff_not] at ho2
    split<;>omega
   rw [this,Bool.true_and]
  rw [he]
  exact refSpLast_in cs (j.n 10) j.f.c j.f.r (panM j.f.c j.f.r) a' a _ c _ c' j.ls _ _ _ _ _ w h.length h11 h12 h13 h14 h15 rfl hT (fun x=>by unfold NameE;rw [may_eq];rfl) rfl ((n1 _).trans ho1) ho1 (n2 _) rfl rfl rfl ho2 (fun w1=>refPanels_any _ _ _ _ _ w1)
end Go.Proofs.YtbbjileignefbaaGreatDoor
namespace Go.Proofs.YtbbjileignefbaaGreatDoor
open Go.RowKit
def LiG (G:Nat→Prop) (w:World) (a:Option Addr) (l:List Sp):Prop:=l=[]∨∃ b off,a=some ⟨b,off,none⟩∧G b∧InS w b off l
section
variable {G G':Nat→Prop} {w w':World} {a:Option Addr} {c:Nat} {l:List Sp} {base:Nat}
theorem LiG.inL (h:LiG G w a l):InL w a l:=h.imp id fun ⟨b,off,e,_,h⟩=>⟨b,off,e,h⟩
theorem LiG.mono (h:LiG G w a l) (hG:∀ b,G b→G' b):LiG G' w a l:=h.imp id fun ⟨b,off,e,g,h⟩=>⟨b,off,e,hG _ g,h⟩
theorem LiG.up (h:LiG G w a l) (hb:Below w.heap.size w w'):LiG G w' a l:=h.imp id fun ⟨b,off,e,g,h⟩=>⟨b,off,e,g,h.up hb⟩
theorem LiG.old (h:LiG G w a l):LiG (fun b=>G b∧b<w.heap.size) w a l:=by
 rcases h with h | ⟨b,off,e,g,h⟩
 ·exact .inl h
 ·cases l with
  | nil=>exact .inl rfl
  | cons p r=>exact .inr ⟨b,off,e,⟨g,World.block_lt_of_cell? w _ (h 0 p rfl).1⟩,h⟩
theorem LiG.keep {B:Nat} (h:LiG G w a l) (hB:¬ G B) (hk:∀ p:Addr,p.block≠B→∀ v,w.cell? p=some v→w'.cell? p=some v):LiG G w' a l :=
 h.imp id fun ⟨b,off,e,g,h⟩=>⟨b,off,e,g,fun i q hq=>by
  have hne:b≠B:=fun e=>hB (e ▸ g)
  obtain ⟨c0,c1,c2⟩:=h i q hq
  exact ⟨hk _ hne _ c0,hk _ hne _ c1,hk _ hne _ c2⟩⟩
theorem LiG.set (h:LiG G w a l) {p:Addr} (hp:¬ G p.block) (x:Value):LiG G (w.setCell p x) a l :=
 h.keep hp fun q hq v hv=>(World.cell?_setCell_far _ _ _ _ (Ne.symm hq)).trans hv
theorem InF.liG (h:InF base w a l):LiG (base≤·) w a l:=h
theorem InL.liG (h:InL w a l):LiG (·<w.heap.size) w a l:=(show LiG (fun _=>True) w a l from h.imp id fun ⟨b,off,e,h⟩=>⟨b,off,e,trivial,h⟩).old.mono fun _ h=>h.2
end
end Go.Proofs.YtbbjileignefbaaGreatDoor
namespace Go.Proofs.YtbbjileignefbaaGreatDoor
open Go.RowKit
set_option maxRecDepth 100000 in
set_option maxHeartbeats 1000000 in
theorem refSpOf_no (cs:List Value) (N:Int) (u1 u2 u3:Bool) (w:World) (hL:cs.length=33) (h1:cs[1]?=some (.int .i64 N)) (h:(u1&&(u2&&u3))=false)
  (KF:∀ w1,Below w.heap.size w w1→Calls Tryz.prog 30 #[.agg cs.toArray] w1 fun e w'=>e=.returned (.bool u1)∧Below w1.heap.size w1 w')
  (KL:∀ w1,Below w.heap.size w w1→Calls Tryz.prog 31 #[.agg cs.toArray] w1 fun e w'=>e=.returned (.bool u2)∧Below w1.heap.size w1 w')
  (KI:∀ w1,Calls Tryz.prog 32 #[.int .i64 N,.int .i64 1,.int .i64 100000] w1 fun e w'=>e=.returned (.bool u3)∧w'=w1) :
  Calls Tryz.prog 17 #[.agg cs.toArray] w fun e w'=>e=.returned (.slice none 0 0)∧Below w.heap.size w w':=by
 have HX:=Lib.hid (Bx.new w 29 cs)
 have HB:=Lib.hid (up_alloc (Below.refl w.heap.size w) (.cells cs.toArray 29))
 have HL:=Lib.hid hL;have H1:=Lib.hid h1;have HF:=Lib.hid KF;have HLa:=Lib.hid KL;have HI:=Lib.hid KI;have HH:=Lib.hid h
 clear hL h1 KF KL KI h
 go_enter Tryz.func17,Tryz.ntmps17
 go_wp2_with (refine wpList_load_job rfl _ rfl w.heap.size rfl cs HX.out HL.out ?_;simp only [Act.put,List.setIfInBounds_toArray,List.set_cons_succ,List.set_cons_zero])
 refine (HF.out _ HB.out).mono ?_
 rintro e w1 ⟨rfl,hb⟩
 have HX1:=Lib.hid (HX.out.later (by rw [HL.out];decide) hb)
 have HB1:=Lib.hid (up_trans HB.out hb)
 clear hb
 cases u1
 ·go_wp2
  go_ret
  exact ⟨rfl,HB1.out⟩
 go_wp2_with (refine wpList_load_job_want _ rfl rfl w.heap.size rfl cs HX1.out HL.out ?_;simp only [Act.put,List.setIfInBounds_toArray,List.set_cons_succ,List.set_cons_zero])
 refine (HLa.out _ HB1.out).mono ?_
 rintro e w2 ⟨rfl,hb⟩
 have X2:=HX1.out.later (by rw [HL.out];decide) hb
 have HB2:=Lib.hid (up_trans HB1.out hb)
 have c1:=X2.cell 1 H1.out
 clear hb X2
 cases u2
 ·go_wp2
  go_ret
  exact ⟨rfl,HB2.out⟩
 obtain rfl:u3=false:=HH.out
 go_wp2_with fail
 refine (HI.out _).mono ?_
 rintro e w3 ⟨rfl,rfl⟩
 go_wp2
 go_ret
 exact ⟨rfl,HB2.out⟩
def OfRelA (f:Sc) (N q:Int) (w1:World) (v i:Value) (wr:World):Prop :=
 ∃ (k:Nat) (R:Int),i=.int .i64 R∧Hid (R+(k:Int)*q=N)∧1≤R∧R≤100000∧k≤50000∧Hid (OwnL wr w1.heap.size v (List.replicate k f))∧Hid (Below w1.heap.size w1 wr)
def OfRelB (G:Nat→Prop) (R:Int) (f:Sc) (ls:List (List UInt8)) (K:Nat) (V:World) (i:Value) (wr:World):Prop :=
 ∃ (j:Nat) (s:Sc) (a1:Option Addr) (c1:Nat),j≤K∧i=.int .i64 (j:Int)∧Hid ((ls.take j).foldl (lessM R) f=s)∧Hid (Bx wr V.heap.size [.int .i64 s.c,.int .i64 s.r,.slice a1 s.l.length c1])∧Hid (LiG G wr a1 s.l)∧Hid (Below V.heap.size V wr)
theorem rep_snoc (f:Sc) (k:Nat):List.replicate k f++[f]=List.replicate (k+1) f:=(List.replicate_succ').symm
theorem k_bound {R N q:Int} {k:Nat} (h:R+(k:Int)*q=N) (h1:1≤R) (hN:N≤100000) (hq:2≤q):k<50000:=by
 have:(k:Int)*2≤(k:Int)*q:=Int.mul_le_mul_of_nonneg_left hq (by omega)
 omega
theorem lessR_no (p:Int) (b s:Sc) (nm:List UInt8) (h:(findM nm).getD zeroSc=s) (u v:Bool) (e1:decide (p≤2*panM s.c s.r)=u) (e2:decide (panM s.c s.r<panM b.c b.r)=v) (hn:(u&&v)=false):lessM p b nm=b:=by
 unfold lessM
 rw [h]
 refine if_neg fun ⟨h1,h2⟩=>?_
 rw [←e1,←e2] at hn
 unfold panS at h1 h2
 rw [decide_eq_true h1,decide_eq_true h2] at hn
 cases hn
theorem lessR_yes (p:Int) (b s:Sc) (nm:List UInt8) (h:(findM nm).getD zeroSc=s) (e1:decide (p≤2*panM s.c s.r)=true) (e2:decide (panM s.c s.r<panM b.c b.r)=true):lessM p b nm=s:=by
 unfold lessM
 rw [h]
 rw [decide_eq_true_eq] at e1 e2
 exact if_pos ⟨e1,e2⟩
set_option maxRecDepth 100000 in
set_option maxHeartbeats 4000000 in
theorem refSpOf_yes (cs:List Value) (N p q:Int) (f:Sc) (a a':Option Addr) (n cap K cap':Nat) (ls:List (List UInt8)) (w:World) (hL:cs.length=33) (h1:cs[1]?=some (.int .i64 N)) (h12:cs[12]?=some (.int .i64 f.c)) (h13:cs[13]?=some (.int .i64 f.r)) (h14:cs[14]?=some (.slice a n cap)) (h15:cs[15]?=some (.slice a' K cap'))
  (hn:f.l.length=n) (hn6:n≤6) (hI:InL w a f.l) (hk:ls.length=K) (hK:K≤4) (hT:TxA w a' cap' ls) (n1:1≤N) (n2:N≤100000) (p1:1≤p) (p2:p≤64) (hp:panM f.c f.r=p) (hq:2*p=q)
  (KF:∀ w1,Below w.heap.size w w1→Calls Tryz.prog 30 #[.agg cs.toArray] w1 fun e w'=>e=.returned (.bool true)∧Below w1.heap.size w1 w')
  (KL:∀ w1,Below w.heap.size w w1→Calls Tryz.prog 31 #[.agg cs.toArray] w1 fun e w'=>e=.returned (.bool true)∧Below w1.heap.size w1 w')
  (KI:∀ w1,Calls Tryz.prog 32 #[.int .i64 N,.int .i64 1,.int .i64 100000] w1 fun e w'=>e=.returned (.bool true)∧w'=w1) :
  Calls Tryz.prog 17 #[.agg cs.toArray] w fun e w'=>∃ (k:Nat) (s:Sc) (R:Int) (a2:Option Addr) (c2:Nat),e=.returned (.slice a2 (k+1) c2)∧ScsA w' a2 (List.replicate k f++[s])∧(R+(k:Int)*q=N∧1≤R∧R≤q∧ls.foldl (lessM R) f=s)∧Below w.heap.size w w':=by
 have HX:=Lib.hid (Bx.new w 29 cs)
 have HB:=Lib.hid (up_alloc (Below.refl w.heap.size w) (.cells cs.toArray 29))
 have HL:=Lib.hid hL;have H1:=Lib.hid h1;have HF:=Lib.hid KF;have HLa:=Lib.hid KL;have HI:=Lib.hid KI
 have H12:=Lib.hid h12;have H13:=Lib.hid h13;have H14:=Lib.hid h14;have H15:=Lib.hid h15
 have HG:=Lib.hid hI.liG;have HT:=Lib.hid hT;have HK:=Lib.hid hk;have HN:=Lib.hid hn
 have KP:=fun w1=>refPanels_any f.c f.r a n cap w1
 rw [hp] at KP
 have HP:=Lib.hid KP;have HPP:=Lib.hid hp
 clear hL h1 KF KL KI h12 h13 h14 h15 hI hT hk hn KP hp
 go_enter Tryz.func17,Tryz.ntmps17
 go_wp2_with (refine wpList_load_job rfl _ rfl w.heap.size rfl cs HX.out HL.out ?_;simp only [Act.put,List.setIfInBounds_toArray,List.set_cons_succ,List.set_cons_zero])
 refine (HF.out _ HB.out).mono ?_
 rintro e w1 ⟨rfl,hb⟩
 have HX1:=Lib.hid (HX.out.later (by rw [HL.out];decide) hb)
 have HB1:=Lib.hid (up_trans HB.out hb)
 clear hb
 go_wp2_with (refine wpList_load_job_want _ rfl rfl w.heap.size rfl cs HX1.out HL.out ?_;simp only [Act.put,List.setIfInBounds_toArray,List.set_cons_succ,List.set_cons_zero])
 refine (HLa.out _ HB1.out).mono ?_
 rintro e w2 ⟨rfl,hb⟩
 have HX2:=Lib.hid (HX1.out.later (by rw [HL.out];decide) hb)
 have HB2:=Lib.hid (up_trans HB1.out hb)
 have c1:=HX2.out.cell 1 H1.out
 clear hb
 go_wp2_with fail
 refine (HI.out _).mono ?_
 rintro e w3 ⟨rfl,hw3⟩
 obtain rfl:w2=w3:=hw3.symm
 clear hw3
 go_wp2
 have hlow:=HX2.out.lowE (by rw [HL.out];decide)
 clear c1
 go_loopw [3,4] (fun v i wr=>OfRelA f N q w2 v i wr) (fun _ i _=>(intOf i).toNat)
 case atStart=>exact ⟨0,N,by go_num,Lib.hid (by simp),n1,n2,by omega,Lib.hid (OwnL.nil _ _),Lib.hid (Below.refl _ _)⟩
 case round =>
  obtain ⟨k,R,rfl,HR,r1,r2,k1,HO,HW⟩:=hrel
  have X:=HX2.out.later (by rw [HL.out];decide) HW.out
  have c12:=X.cell 12 H12.out;have c13:=X.cell 13 H13.out;have c14:=X.cell 14 H14.out
  obtain ⟨av,cv,rfl,-⟩:=HO.out.tells
  rw [List.length_replicate] at HO ⊢
  by_cases hlt:q<R
  ·go_wp2_with fail
   refine (HP.out _).mono ?_
   rintro e w3 ⟨rfl,hb⟩
   have d12:=bl_cell hb c12;have d13:=bl_cell hb c13;have d14:=bl_cell hb c14
   have HO3:=Lib.hid (HO.out.up hb)
   have HW3:=Lib.hid (up_trans HW.out hb)
   have hbs:w2.heap.size≤w3.heap.size:=by have:=hb.size;have:=HW.out.size;omega
   have HIN:Hid (InN (Value.slice av k cv).ownBlock w3 a f.l):=Lib.hid (by
    rcases HG.out with h | ⟨b,off,rfl,h0,h1⟩
    ·exact .inl h
    ·exact .inr ⟨b,off,rfl,fun e=>by have:=(HO.out.block b e).1;omega,(h1.up HB2.out).up HW3.out⟩)
   clear hb c12 c13 c14 X
   go_wp2_with (at_builtin;refine wpList_append_sc rfl _ _ rfl w2.heap.size (.slice av k cv) (List.replicate k f) rfl HO3.out hbs f a cap n HN.out HIN.out w3.heap.size rfl rfl ?ln ?_)
   case ln=>rw [List.length_replicate];omega
   intro g2 cap2 w4 hO4 hb4
   rw [rep_snoc] at hO4
   have HO4:=Lib.hid hO4
   have HW4:=Lib.hid (show Below w2.heap.size w2 w4 from HW3.out.trans hb4)
   have X:=HX2.out.later (by rw [HL.out];decide) HW4.out
   have c12:=X.cell 12 H12.out;have c13:=X.cell 13 H13.out;have c14:=X.cell 14 H14.out
   clear hO4 hb4 d12 d13 d14 X
   go_wp2_with fail
   refine (HP.out _).mono ?_
   rintro e w5 ⟨rfl,hb⟩
   have HO5:=Lib.hid (HO4.out.up hb)
   have HW5:=Lib.hid (up_trans HW4.out hb)
   clear hb c12 c13 c14
   have hq2:R-q≤100000:=by omega
   have hRq:(R-q)+((k+1:Nat):Int)*q=N:=by
    have:=HR.out
    rw [Int.natCast_succ,Int.add_mul]
    omega
   have hkb:=k_bound hRq (by omega) n2 (by omega)
   go_wp2
   go_roundw
   case rel=>exact ⟨k+1,R-q,by go_num,Lib.hid hRq,by omega,hq2,by omega,HO5,HW5⟩
   case measure=>simp [intOf];omega
  ·go_wp2_with fail
   refine (HP.out _).mono ?_
   rintro e V ⟨rfl,hb⟩
   have HOV:=Lib.hid (HO.out.up hb)
   have HWV:=Lib.hid (up_trans HW.out hb)
   have XV:=HX2.out.later (by rw [HL.out];decide) HWV.out
   have HXV:=Lib.hid XV
   have hVs:w2.heap.size≤V.heap.size:=HWV.out.size
   clear hb c12 c13 c14 X
   have v12:=XV.cell 12 H12.out;have v13:=XV.cell 13 H13.out;have v14:=XV.cell 14 H14.out
   have L6:=Bx.new V 26 [.int .i64 f.c,.int .i64 f.r,.slice a n cap]
   have U6:=up_alloc (Below.refl V.heap.size V) (.cells #[.int .i64 f.c,.int .i64 f.r,.slice a n cap] 26)
   have G6:=(((HG.out.mono (G':=fun b=>b<w2.heap.size∨V.heap.size<b) (fun b hb=>.inl (by omega))).up HB2.out).up HWV.out).up U6
   clear XV
   go_wp2
   clear v12 v13 v14
   obtain ⟨w6,hw6⟩:∃ w6,V.alloc (.cells #[.int .i64 f.c,.int .i64 f.r,.slice a n cap] 26)=w6:=⟨_,rfl⟩
   rw [hw6] at L6 U6 G6 ⊢
   clear hw6
   have HL6:=Lib.hid L6;have HU6:=Lib.hid U6;have HG6:=Lib.hid G6
   clear L6 U6 G6
   go_loopw [6] (OfRelB (fun b=>b<w2.heap.size∨V.heap.size<b) R f ls K V) (fun i _=>K-(intOf i).toNat)
   case atStart=>exact ⟨0,f,a,cap,by omega,by go_num,Lib.hid rfl,by rw [HN.out];exact HL6,HG6,HU6⟩
   case round =>
    obtain ⟨j,s,a1,c1,hj,rfl,HS,HLb,HGb,HBb⟩:=hrel
    have d15:=(HXV.out.later (by rw [HL.out];decide) HBb.out).cell 15 H15.out
    by_cases hjl:j<K
    ·obtain ⟨z,hx⟩:∃ x,ls[j]?=some x:=⟨ls[j]'(by rw [HK.out];exact hjl),List.getElem?_eq_getElem _⟩
     obtain ⟨g,o,rfl,hc,-,-⟩:=HT.out.resolve_left (by rintro rfl;cases hx)
     have hcx:=bl_cell HBb.out (bl_cell HWV.out (bl_cell HB2.out (hc j z hx)))
     have z0:(0:Int)≤(j:Int):=by omega
     have z3:(j:Int)<(K:Int):=by omega
     have htk:=Lib.hid (take_next hx)
     have HFi:=Lib.hid (refFind_any z wr)
     obtain ⟨t,ht⟩:∃ t,(findM z).getD zeroSc=t:=⟨_,rfl⟩
     unfold GivesS at HFi
     rw [ht] at HFi
     have HTS:=Lib.hid ht
     generalize (findM z).isSome=fb at *
     generalize tx z=Z at *
     clear hx hc ht
     go_wp2_with fail
     refine HFi.out.mono ?_
     rintro e w7 ⟨a3,c3,rfl,hF,hb⟩
     have S:=Bx.new w7 26 [.int .i64 t.c,.int .i64 t.r,.slice a3 t.l.length c3]
     have U:=up_alloc (Below.refl w7.heap.size w7) (.cells #[.int .i64 t.c,.int .i64 t.r,.slice a3 t.l.length c3] 26)
     have B8:=Lib.hid (up_trans HBb.out (up_trans hb U))
     have HL8:=Lib.hid ((HLb.out.up hb).up U)
     have HI8:=Lib.hid ((HGb.out.up hb).up U)
     have hlw:=HLb.out.lt
     have HF8:=Lib.hid ((hF.liG.mono (G':=fun b=>b<w2.heap.size∨V.heap.size<b) (fun b hb=>.inr (by omega))).up U)
     have hne:V.heap.size≠w7.heap.size:=by have:=hb.size;omega
     clear hb U hF hcx d15
     go_wp2_with fail
     obtain ⟨w8,hw8⟩:∃ w8,w7.alloc (.cells #[.int .i64 t.c,.int .i64 t.r,.slice a3 t.l.length c3] 26)=w8:=⟨_,rfl⟩
     rw [hw8] at S B8 HL8 HI8 HF8 ⊢
     clear hw8
     have j0:=fun x:Later w8=>x.cell (S.cell 0 rfl)
     have j1:=fun x:Later w8=>x.cell (S.cell 1 rfl)
     have j2:=fun x:Later w8=>x.cell (S.cell 2 rfl)
     have i0:=fun x:Later w8=>x.cell (HL8.out.cell 0 rfl)
     have i1:=fun x:Later w8=>x.cell (HL8.out.cell 1 rfl)
     have i2:=fun x:Later w8=>x.cell (HL8.out.cell 2 rfl)
     have K1:=fun w1=>refPanels_any t.c t.r a3 t.l.length c3 w1
     have K2:=fun w1=>refPanels_any s.c s.r a1 s.l.length c1 w1
     have hno:=lessR_no R s t z HTS.out
     have hye:=lessR_yes R s t z HTS.out
     obtain ⟨pt0,pt1⟩:0≤panM t.c t.r∧panM t.c t.r≤4096:=pan_ge t
     obtain ⟨q3,hq3⟩:∃ q3,2*panM t.c t.r=q3:=⟨_,rfl⟩
     rw [hq3] at hno hye
     generalize panM t.c t.r=pt at *
     generalize panM s.c s.r=ps at *
     obtain ⟨u,hu⟩:∃ u,decide (R≤q3)=u:=⟨_,rfl⟩
     obtain ⟨v,hv⟩:∃ v,decide (pt<ps)=v:=⟨_,rfl⟩
     have HNo:=Lib.hid (hno u v hu hv)
     rw [hu,hv] at hye
     have HY:=Lib.hid hye
     have HK1:=Lib.hid K1;have HK2:=Lib.hid K2
     clear K1 K2 hno hye S
     cases u
     ·clear hv i0 i1 i2
      refine later_start (w:=w8) ?_
      intro x
      refine wp_region_later (by kernel_rfl) (by kernel_rfl) ?_
      repeat (go_big_quiet_step ((go_at_call 19;with_reducible exact Later.call (HK1.out _))))
      refine wpQuiet_nil ?_
      rintro _ ⟨x2,rfl⟩
      clear j0 j1 j2
      go_wp2
      go_roundw
      case rel=>exact ⟨j+1,s,a1,c1,by omega,by go_num,Lib.hid (by rw [htk.out,List.foldl_append,HS.out];exact HNo.out rfl),Lib.hid (HL8.out.up x2.up),Lib.hid (HI8.out.up x2.up),Lib.hid (up_trans B8.out x2.up)⟩
      case measure=>simp [intOf];omega
     cases v
     ·refine later_start (w:=w8) ?_
      intro x
      refine wp_region_later (by kernel_rfl) (by kernel_rfl) ?_
      repeat (go_big_quiet_step ((go_at_call 19;first | with_reducible exact Later.call (HK1.out _) | with_reducible exact Later.call (HK2.out _))))
      refine wpQuiet_nil ?_
      rintro _ ⟨x2,rfl⟩
      clear j0 j1 j2 i0 i1 i2
      go_wp2
      go_roundw
      case rel=>exact ⟨j+1,s,a1,c1,by omega,by go_num,Lib.hid (by rw [htk.out,List.foldl_append,HS.out];exact HNo.out rfl),Lib.hid (HL8.out.up x2.up),Lib.hid (HI8.out.up x2.up),Lib.hid (up_trans B8.out x2.up)⟩
      case measure=>simp [intOf];omega
     ·refine later_start (w:=w8) ?_
      intro x
      refine wp_region_later (by kernel_rfl) (by kernel_rfl) ?_
      repeat (go_big_quiet_step ((go_at_call 19;first | with_reducible exact Later.call (HK1.out _) | with_reducible exact Later.call (HK2.out _))))
      refine wpQuiet_nil ?_
      rintro _ ⟨x2,rfl⟩
      have L5:=HL8.out.up x2.up
      have BB:=up_trans B8.out x2.up
      have F5:=HF8.out.up x2.up
      have d0:=j0 x2;have d1:=j1 x2;have d2:=j2 x2
      have lf:=L5.free
      have l0:=L5.cell 0 rfl;have l1:=L5.cell 1 rfl;have l2:=L5.cell 2 rfl
      clear j0 j1 j2 i0 i1 i2
      go_wp2
      go_roundw
      case rel =>
       refine ⟨j+1,t,a3,c3,by omega,by go_num,Lib.hid (by rw [htk.out,List.foldl_append,HS.out];exact HY.out rfl rfl),Lib.hid (L5.set3 _ _ _),Lib.hid ?_,Lib.hid ?_⟩
       ·exact ((F5.set (p:=⟨V.heap.size,0,none⟩) (by simp only;omega) _).set (p:=⟨V.heap.size,1,none⟩) (by simp only;omega) _).set (p:=⟨V.heap.size,2,none⟩) (by simp only;omega) _
       ·exact up_set (up_set (up_set BB (by simp only;omega) _) (by simp only;omega) _) (by simp only;omega) _
      case measure=>simp [intOf];omega
    ·obtain rfl:j=K:=by omega
     have hall:ls.take j=ls:=List.take_of_length_le (by rw [HK.out];omega)
     have hs:=HS.out
     rw [hall] at hs
     have HSS:=Lib.hid hs
     have l0:=HLb.out.cell 0 rfl;have l1:=HLb.out.cell 1 rfl;have l2:=HLb.out.cell 2 rfl
     have HOE:=Lib.hid (HOV.out.up HBb.out)
     have HIN:Hid (InN (Value.slice av k cv).ownBlock wr a1 s.l):=Lib.hid (by
      rcases HGb.out with h | ⟨b,off,rfl,h0,h1⟩
      ·exact .inl h
      ·exact .inr ⟨b,off,rfl,fun e=>by have:=HOV.out.block b e;omega,h1⟩)
     have hbs:w2.heap.size≤wr.heap.size:=by have:=HBb.out.size;omega
     clear hall hs
     go_wp2_with (at_builtin;refine wpList_append_sc rfl _ _ rfl w2.heap.size (.slice av k cv) (List.replicate k f) rfl HOE.out hbs s a1 c1 _ rfl HIN.out wr.heap.size rfl rfl ?ln2 ?_)
     case ln2=>rw [List.length_replicate];omega
     intro g2 cap2 w8 hO8 hb8
     obtain ⟨a2,cc2,e2,hS⟩:=hO8.tells
     injection e2 with e2a e2b e2c
     rw [←e2a] at hS
     have B8:Below w.heap.size w w8:=up_trans HB2.out (show Below w2.heap.size w2 w8 from (up_trans HWV.out HBb.out).trans hb8)
     have HS8:=Lib.hid hS;have HB8:=Lib.hid B8
     clear hO8 hb8 e2a e2b e2c hS B8
     go_wp2
     exact bodyPost_ret (v:=.slice (some ⟨g2,0,none⟩) (k+1) cap2) (by simp [results,Tryz.results17,go_sem]) rfl ⟨k,s,R,_,_,rfl,HS8.out,⟨HR.out,r1,by omega,HSS.out⟩,HB8.out⟩
theorem refSpOf_any (cs:List Value) (j:Jb) (w:World) (h:JobA w cs j) (hf:WfF j) (hl:j.f.l.length≤1000000) :
  Calls Tryz.prog 17 #[.agg cs.toArray] w fun e w'=>∃ a cap,e=.returned (.slice a (ofM j).length cap)∧ScsA w' a (ofM j)∧Below w.heap.size w w':=by
 obtain ⟨a,c,a',c',h12,h13,h14,h15,hI,hT⟩:=h.cells
 have h1:cs[1]?=some (.int .i64 (j.n 0)):=h.num (k:=0) (by decide)
 have KF:=fun w1 (hb:Below w.heap.size w w1)=>refSpFolds_any cs j w1 (h.up hb) hf hl
 have KL:=fun w1 (hb:Below w.heap.size w w1)=>refSpLast_any cs j w1 (h.up hb)
 have KI:=fun w1=>refIn_any (j.n 0) 1 100000 w1
 by_cases hp:partB j=true
 ·have hp2:=hp
  unfold partB lastM at hp2
  rw [Bool.and_eq_true,Bool.and_eq_true] at hp2
  obtain ⟨p1,p2,p3,p4,-⟩:=part_facts hp
  simp only [hp2.1.1] at KF
  simp only [hp2.1.2] at KL
  have e3:inB (j.n 0) 1 100000=true:=hp2.2
  rw [e3] at KI
  refine (refSpOf_yes cs (j.n 0) (panM j.f.c j.f.r) _ j.f a a' _ c _ c' j.ls w h.length h1 h12 h13 h14 h15 rfl p2 hI rfl p4 hT p3.1 p3.2 p1.1 p1.2 rfl rfl KF KL KI).mono ?_
  rintro e w' ⟨k,s,R,a2,c2,rfl,hS,⟨hR,r1,r2,hs⟩,hb⟩
  have ho:othersM (j.n 0) (panS j.f)=k:=others_one p3.1 p1.1 (by show 1≤j.n 0-(k:Int)*(2*panM j.f.c j.f.r);omega) (by show j.n 0-(k:Int)*(2*panM j.f.c j.f.r)≤2*panM j.f.c j.f.r;omega) (by omega)
  have hr:restM2 (j.n 0) (panS j.f)=R:=by
   unfold restM2
   rw [ho]
   show j.n 0-(k:Int)*(2*panM j.f.c j.f.r)=R
   omega
  have e:ofM j=List.replicate k j.f++[s]:=by
   unfold ofM
   rw [if_pos hp,ho,Int.toNat_natCast]
   unfold lastS endM
   rw [hr,hs]
  rw [e]
  refine ⟨a2,c2,?_,hS,hb⟩
  rw [List.length_append,List.length_replicate]
  rfl
 ·have hp2:(foldsM j&&(endsM j&&inB (j.n 0) 1 100000))=false:=by
   rw [←Bool.and_assoc]
   rw [←Bool.not_eq_true]
   exact hp
  have e:ofM j=[]:=by unfold ofM;rw [if_neg hp]
  rw [e]
  exact (refSpOf_no cs (j.n 0) _ _ _ w h.length h1 hp2 KF KL KI).mono fun e w' ⟨he,hb⟩=>⟨none,0,he,.inl rfl,hb⟩
def LeavesFRel (s m:Nat) (w:World) (v i:Value) (wr:World):Prop :=
 ∃ k:Nat,k≤m∧i=.int .i64 (k:Int)∧Hid (OwnF wr w.heap.size v (ownF s k))∧Hid (Below w.heap.size w wr)
theorem refLeavesF_any (s m:Nat) (w:World) (hm:m≤1000000) :
  Calls Tryz.prog 18 #[.int .i64 (s:Int),.int .i64 (m:Int)] w fun e w'=>∃ v,e=.returned v∧OwnF w' w.heap.size v (ownF s m)∧Below w.heap.size w w':=by
 go_enter Tryz.func18,Tryz.ntmps18
 go_wp2
 go_loopw [5,6] (fun v i wr=>LeavesFRel s m w v i wr) (fun _ i _=>m-(intOf i).toNat)
 case atStart=>exact ⟨0,by omega,by go_num,Lib.hid (OwnF.nil _ _),Lib.hid (Below.refl _ _)⟩
 case round =>
  obtain ⟨k,hk,rfl,HO,HB⟩:=hrel
  obtain ⟨av,cv,rfl,-⟩:=HO.out.tells
  rw [ownF_length] at HO ⊢
  by_cases hlt:k<m
  ·have hbs:w.heap.size≤wr.heap.size:=HB.out.size
   go_wp2_with (at_builtin;refine wpList_append_lf rfl _ _ rfl w.heap.size (.slice av k cv) (ownF s k) rfl HO.out hbs s k wr.heap.size rfl rfl ?ln ?_)
   case ln=>rw [ownF_length];omega
   intro g2 cap2 w4 hO4 hb4
   rw [←ownF_succ,ownF_length] at hO4
   have HO4:=Lib.hid hO4
   have HB4:=Lib.hid (show Below w.heap.size w w4 from HB.out.trans hb4)
   clear hO4 hb4
   go_wp2
   go_roundw
   case rel=>exact ⟨k+1,by omega,by go_num,by rw [ownF_length];exact HO4,HB4⟩
   case measure=>simp [intOf];omega
  ·obtain rfl:k=m:=by omega
   go_wp2
   go_ret
   exact ⟨_,rfl,HO.out,HB.out⟩
set_option maxRecDepth 100000 in
set_option maxHeartbeats 1000000 in
theorem refMay_core (cs:List Value) (b c r:Int) (a:Option Addr) (k cap:Nat) (n:Nat) (u1 u2 v z:Bool) (w:World) (hL:cs.length=33) (h11:cs[11]?=some (.int .i64 b)) (h12:cs[12]?=some (.int .i64 c)) (h13:cs[13]?=some (.int .i64 r)) (h14:cs[14]?=some (.slice a k cap))
  (e2:decide (0<n)=u2) (e3:(b != 1)=v)
  (KI:∀ w1,Calls Tryz.prog 32 #[.int .i64 b,.int .i64 1,.int .i64 4] w1 fun e w'=>e=.returned (.bool u1)∧w'=w1)
  (KO:∀ w1,Below w.heap.size w w1→Calls Tryz.prog 17 #[.agg cs.toArray] w1 fun e w'=>(∃ a cap,e=.returned (.slice a n cap))∧Below w1.heap.size w1 w')
  (KN:∀ w1,Below w.heap.size w w1→Calls Tryz.prog 48 #[.agg #[.int .i64 c,.int .i64 r,.slice a k cap]] w1 fun e w'=>e=.returned (.bool z)∧Below w1.heap.size w1 w') :
  Calls Tryz.prog 29 #[.agg cs.toArray] w fun e w'=>e=.returned (.bool (u1&&(u2&&(v || z))))∧Below w.heap.size w w':=by
 have HX:=Lib.hid (Bx.new w 29 cs)
 have HB:=Lib.hid (up_alloc (Below.refl w.heap.size w) (.cells cs.toArray 29))
 have HL:=Lib.hid hL;have HI:=Lib.hid KI;have HO:=Lib.hid KO;have HN:=Lib.hid KN
 have H11:=Lib.hid h11;have H12:=Lib.hid h12;have H13:=Lib.hid h13;have H14:=Lib.hid h14
 have c11:=HX.out.cell 11 h11
 have e2':decide ((0:Int)<(n:Int))=u2:=by rw [←e2,Bool.eq_iff_iff];simp
 clear hL KI KO KN h11 h12 h13 h14
 cases u1
 ·clear e2 e2' e3
  go_enter Tryz.func29,Tryz.ntmps29
  go_wp2_with fail
  refine (HI.out _).mono ?_
  rintro e w1 ⟨rfl,rfl⟩
  go_wp2
  go_ret
  exact ⟨rfl,HB.out⟩
 cases u2
 ·clear e3
  go_enter Tryz.func29,Tryz.ntmps29
  go_wp2_with fail
  refine (HI.out _).mono ?_
  rintro e w1 ⟨rfl,hw1⟩
  subst hw1
  go_wp2_with (refine wpList_load_job_want _ rfl rfl w.heap.size rfl cs HX.out HL.out ?_;simp only [Act.put,List.setIfInBounds_toArray,List.set_cons_succ,List.set_cons_zero])
  refine (HO.out _ HB.out).mono ?_
  rintro e w2 ⟨⟨a2,cp2,rfl⟩,hb⟩
  have HB2:=Lib.hid (up_trans HB.out hb)
  clear hb
  go_wp2
  go_ret
  exact ⟨rfl,HB2.out⟩
 cases v
 ·go_enter Tryz.func29,Tryz.ntmps29
  go_wp2_with fail
  refine (HI.out _).mono ?_
  rintro e w1 ⟨rfl,hw1⟩
  subst hw1
  go_wp2_with (refine wpList_load_job_want _ rfl rfl w.heap.size rfl cs HX.out HL.out ?_;simp only [Act.put,List.setIfInBounds_toArray,List.set_cons_succ,List.set_cons_zero])
  refine (HO.out _ HB.out).mono ?_
  rintro e w2 ⟨⟨a2,cp2,rfl⟩,hb⟩
  have X2:=HX.out.later (by rw [HL.out];decide) hb
  have d11:=X2.cell 11 H11.out;have d12:=X2.cell 12 H12.out;have d13:=X2.cell 13 H13.out;have d14:=X2.cell 14 H14.out
  have HB2:=Lib.hid (up_trans HB.out hb)
  clear hb X2 c11
  go_wp2_with fail
  refine (HN.out _ HB2.out).mono ?_
  rintro e w3 ⟨rfl,hb⟩
  have HB3:=Lib.hid (up_trans HB2.out hb)
  clear hb
  go_wp2
  go_ret
  exact ⟨by simp,HB3.out⟩
 ·go_enter Tryz.func29,Tryz.ntmps29
  go_wp2_with fail
  refine (HI.out _).mono ?_
  rintro e w1 ⟨rfl,hw1⟩
  subst hw1
  go_wp2_with (refine wpList_load_job_want _ rfl rfl w.heap.size rfl cs HX.out HL.out ?_;simp only [Act.put,List.setIfInBounds_toArray,List.set_cons_succ,List.set_cons_zero])
  refine (HO.out _ HB.out).mono ?_
  rintro e w2 ⟨⟨a2,cp2,rfl⟩,hb⟩
  have X2:=HX.out.later (by rw [HL.out];decide) hb
  have d11:=X2.cell 11 H11.out
  have HB2:=Lib.hid (up_trans HB.out hb)
  clear hb X2 c11
  go_wp2
  go_ret
  exact ⟨rfl,HB2.out⟩
theorem refMay_any (cs:List Value) (j:Jb) (w:World) (h:JobA w cs j) (hf:WfF j) (hl:j.f.l.length≤1000000) :
  Calls Tryz.prog 29 #[.agg cs.toArray] w fun e w'=>e=.returned (.bool (mayM j))∧Below w.heap.size w w':=by
 obtain ⟨a,c,a',c',h12,h13,h14,h15,hI,hT⟩:=h.cells
 have:=refMay_core cs (j.n 10) j.f.c j.f.r a _ c (ofM j).length _ _ _ (nestS j.f) w h.length (h.num (k:=10) (by decide)) h12 h13 h14 rfl rfl (fun w1=>refIn_any _ 1 4 w1)
  (fun w1 hb=>(refSpOf_any cs j w1 (h.up hb) hf hl).mono fun e w' ⟨a,cap,he,_,hb⟩=>⟨⟨a,cap,he⟩,hb⟩) (fun w1 hb=>refNests_any j.f a c w1 hf.1 hf.2 hl (hI.up hb))
 have e:∀ x:Int,(!decide (x=1))=(x != 1):=fun x=>by rw [Bool.eq_iff_iff];simp
 unfold mayM
 rw [e]
 exact this
set_option maxRecDepth 100000 in
theorem refCopies_core (cs:List Value) (b:Int) (m v:Bool) (w:World) (hL:cs.length=33) (h11:cs[11]?=some (.int .i64 b)) (e1:(b==4)=v)
  (KM:∀ w1,Below w.heap.size w w1→Calls Tryz.prog 29 #[.agg cs.toArray] w1 fun e w'=>e=.returned (.bool m)∧Below w1.heap.size w1 w') :
  Calls Tryz.prog 16 #[.agg cs.toArray] w fun e w'=>e=.returned (.int .i64 (if m=true then (if v=true then 2 else 1) else 0))∧Below w.heap.size w w':=by
 have HX:=Lib.hid (Bx.new w 29 cs)
 have HB:=Lib.hid (up_alloc (Below.refl w.heap.size w) (.cells cs.toArray 29))
 have HL:=Lib.hid hL;have HM:=Lib.hid KM;have H11:=Lib.hid h11
 clear hL KM h11
 go_enter Tryz.func16,Tryz.ntmps16
 go_wp2_with (refine wpList_load_job rfl _ rfl w.heap.size rfl cs HX.out HL.out ?_;simp only [Act.put,List.setIfInBounds_toArray,List.set_cons_succ,List.set_cons_zero])
 refine (HM.out _ HB.out).mono ?_
 rintro e w1 ⟨rfl,hb⟩
 have c11:=(HX.out.later (by rw [HL.out];decide) hb).cell 11 H11.out
 have HB1:=Lib.hid (up_trans HB.out hb)
 clear hb
 cases m
 ·go_wp2
  go_ret
  exact ⟨rfl,HB1.out⟩
 cases v
 all_goals
  go_wp2
  go_ret
  exact ⟨rfl,HB1.out⟩
theorem refCopies_any (cs:List Value) (j:Jb) (w:World) (h:JobA w cs j) (hf:WfF j) (hl:j.f.l.length≤1000000) :
  Calls Tryz.prog 16 #[.agg cs.toArray] w fun e w'=>e=.returned (.int .i64 (copM j))∧Below w.heap.size w w':=by
 have:=refCopies_core cs (j.n 10) _ _ w h.length (h.num (k:=10) (by decide)) rfl (fun w1 hb=>refMay_any cs j w1 (h.up hb) hf hl)
 unfold copM
 simp only [beq_iff_eq] at this
 exact this
end Go.Proofs.YtbbjileignefbaaGreatDoor
namespace Go.Proofs.YtbbjileignefbaaGreatDoor
open Go.RowKit Go.Deep Go.ChangeShapes Go.WideShapes
set_option maxRecDepth 100000
section
variable {H:Type} {enc:TypeId×Value→H} {w:World} {base:Nat} {spare:Nat→Bool} {held:Bool}
theorem textsA_of (a:Option Addr) (len cap:Nat) (w:World)
  (h:(a=none∧len=0∧cap=0)∨∃ x,a=some x∧len≤cap∧cap≤maxLen∧∀ i,i<len→∃ z:ByteArray,w.cell? (x.add i)=some (.string z)∧z.size≤maxLen) :
  ∃ ls:List (List UInt8),ls.length=len∧TxA w a cap ls∧∀ x∈ls,x.length≤maxLen:=by
 rcases h with ⟨rfl,rfl,rfl⟩ | ⟨x,rfl,hl,hm,hc⟩
 ·exact ⟨[],rfl,.inl rfl,by simp⟩
 ·by_cases h0:len=0
  ·subst h0;exact ⟨[],rfl,.inl rfl,by simp⟩
  obtain ⟨b,off,spot⟩:=x
  have hspot:spot=none:=by
   obtain ⟨z,hz,_⟩:=hc 0 (by omega)
   simpa [Addr.add] using World.cell?_spot hz
  subst hspot
  obtain ⟨l,e,hq⟩:=list_of (Q:=fun i (p:List UInt8)=>w.cell? ⟨b,off+i,none⟩=some (.string (tx p))∧p.length≤maxLen) len (fun i hi=>by
   obtain ⟨z,h1,h2⟩:=hc i hi
   rw [Go.WideShapes.add_plain] at h1
   exact ⟨z.data.toList,by rw [tx_data];exact h1,by rw [size_data];exact h2⟩)
  refine ⟨l,e,.inr ⟨b,off,rfl,fun i p hp=>(hq i p hp).1,by omega,hm⟩,fun p hp=>?_⟩
  obtain ⟨i,hi⟩:=List.getElem?_of_mem hp
  exact (hq i p hi).2
theorem trod_int_at {fuel o:Nat} {cs:List Value} {y:DataW H×List MemPlace} (ho:o<cs.length) (h:DataW.trod enc Tryz.prog w base spare held fuel 3 ((cs.drop o).take 1)=some y):∃ z,cs[o]?=some (.int .i64 z)∧(Lit.int .i64 z).wf=true:=by
 obtain ⟨v,hv,hw⟩:=trod_fit (by rw [List.length_take,List.length_drop];omega) h
 rw [Tryz.underlying3] at hw
 obtain ⟨z,rfl,hz⟩:=hw
 refine ⟨z,?_,hz⟩
 have:((cs.drop o).take 1)[0]?=some (.int .i64 z):=by rw [hv];rfl
 simpa [ho] using this
theorem take_take_drop {cs:List Value} {o k i:Nat} (h:i<k):(((cs.drop o).take k).drop i).take 1=(cs.drop (o+i)).take 1:=by
 rw [List.drop_take,List.take_take,List.drop_drop,Nat.min_eq_left (by omega)]
theorem trod_at {t ft:TypeId} {i o fuel:Nat} {cs:List Value} {x:DataW H×List MemPlace} (hs:(match Tryz.prog.underlying t with | some (.struct fs)=>(fs[i]?).map fun f=>(f.type,f.offset) | _=>none)=some (ft,o))
  (h:DataW.trod enc Tryz.prog w base spare held fuel t cs=some x):∃ m y,DataW.trod enc Tryz.prog w base spare held m ft ((cs.drop o).take (Tryz.prog.cellsOf ft))=some y:=by
 cases hu:Tryz.prog.underlying t with
 | none=>rw [hu] at hs;cases hs
 | some d =>
  rw [hu] at hs
  cases d
  case struct fs =>
   simp only [Option.map_eq_some_iff,Prod.mk.injEq] at hs
   obtain ⟨f,hf0,rfl,rfl⟩:=hs
   obtain ⟨xs,m,_,_,_,hxl,hf⟩:=DataW.trod_struct hu h
   have g:=hf i f hf0
   have hi:i<xs.length:=by rw [hxl];exact (Array.getElem?_eq_some_iff.1 hf0).1
   rw [List.getElem?_eq_getElem hi] at g
   exact ⟨m,_,g⟩
  all_goals cases hs
theorem trod_int_field {t:TypeId} {i o fuel:Nat} {cs:List Value} {x:DataW H×List MemPlace} (hs:(match Tryz.prog.underlying t with | some (.struct fs)=>(fs[i]?).map fun f=>(f.type,f.offset) | _=>none)=some (3,o)) (ho:o<cs.length)
  (h:DataW.trod enc Tryz.prog w base spare held fuel t cs=some x):∃ z,cs[o]?=some (.int .i64 z)∧(Lit.int .i64 z).wf=true:=by
 obtain ⟨m,y,g⟩:=trod_at hs h
 rw [show Tryz.prog.cellsOf 3=1 by kernel_rfl] at g
 exact trod_int_at ho g
theorem wf_int {z:Int} (h:(Lit.int .i64 z).wf=true):-9223372036854775808≤z∧z≤9223372036854775807:=by
 simp [Lit.wf,IntKind.min,IntKind.max,IntKind.bits,IntKind.signed] at h
 omega
theorem open_jobF {fuel:Nat} {cs:List Value} {x:DataW H×List MemPlace} (hl:cs.length=33) (h:DataW.trod enc Tryz.prog w base spare held fuel 29 cs=some x) :
  ∃ j:Jb,(JobA w cs j∧j.t.length≤maxLen∧∀ p∈j.ls,p.length≤maxLen)∧(∀ i,-9223372036854775808≤j.n i∧j.n i≤9223372036854775807)∧j.f.c≤9223372036854775807∧j.f.r≤9223372036854775807:=by
 obtain ⟨z0,h0,g0⟩:=trod_int_field (i:=1) (o:=1) (by kernel_rfl) (by omega) h
 obtain ⟨z3,h3,g3⟩:=trod_int_field (i:=3) (o:=4) (by kernel_rfl) (by omega) h
 obtain ⟨z4,h4,g4⟩:=trod_int_field (i:=4) (o:=5) (by kernel_rfl) (by omega) h
 obtain ⟨z5,h5,g5⟩:=trod_int_field (i:=5) (o:=6) (by kernel_rfl) (by omega) h
 obtain ⟨z6,h6,g6⟩:=trod_int_field (i:=6) (o:=7) (by kernel_rfl) (by omega) h
 obtain ⟨z7,h7,g7⟩:=trod_int_field (i:=7) (o:=8) (by kernel_rfl) (by omega) h
 obtain ⟨z8,h8,g8⟩:=trod_int_field (i:=8) (o:=9) (by kernel_rfl) (by omega) h
 obtain ⟨z9,h9,g9⟩:=trod_int_field (i:=9) (o:=10) (by kernel_rfl) (by omega) h
 obtain ⟨z10,h10,g10⟩:=trod_int_field (i:=10) (o:=11) (by kernel_rfl) (by omega) h
 obtain ⟨z11,h11,g11⟩:=trod_int_field (i:=13) (o:=16) (by kernel_rfl) (by omega) h
 obtain ⟨z12,h12,g12⟩:=trod_int_field (i:=14) (o:=17) (by kernel_rfl) (by omega) h
 obtain ⟨z13,h13,g13⟩:=trod_int_field (i:=15) (o:=18) (by kernel_rfl) (by omega) h
 obtain ⟨z14,h14,g14⟩:=trod_int_field (i:=16) (o:=19) (by kernel_rfl) (by omega) h
 obtain ⟨z15,h15,g15⟩:=trod_int_field (i:=17) (o:=20) (by kernel_rfl) (by omega) h
 obtain ⟨z16,h16,g16⟩:=trod_int_field (i:=18) (o:=21) (by kernel_rfl) (by omega) h
 obtain ⟨z17,h17,g17⟩:=trod_int_field (i:=19) (o:=22) (by kernel_rfl) (by omega) h
 obtain ⟨z18,h18,g18⟩:=trod_int_field (i:=20) (o:=23) (by kernel_rfl) (by omega) h
 obtain ⟨z19,h19,g19⟩:=trod_int_field (i:=21) (o:=24) (by kernel_rfl) (by omega) h
 obtain ⟨z20,h20,g20⟩:=trod_int_field (i:=22) (o:=25) (by kernel_rfl) (by omega) h
 obtain ⟨z21,h21,g21⟩:=trod_int_field (i:=23) (o:=26) (by kernel_rfl) (by omega) h
 obtain ⟨z22,h22,g22⟩:=trod_int_field (i:=24) (o:=27) (by kernel_rfl) (by omega) h
 obtain ⟨z23,h23,g23⟩:=trod_int_field (i:=25) (o:=28) (by kernel_rfl) (by omega) h
 obtain ⟨z24,h24,g24⟩:=trod_int_field (i:=26) (o:=29) (by kernel_rfl) (by omega) h
 obtain ⟨z25,h25,g25⟩:=trod_int_field (i:=27) (o:=30) (by kernel_rfl) (by omega) h
 obtain ⟨z26,h26,g26⟩:=trod_int_field (i:=28) (o:=31) (by kernel_rfl) (by omega) h
 obtain ⟨z27,h27,g27⟩:=trod_int_field (i:=29) (o:=32) (by kernel_rfl) (by omega) h
 obtain ⟨mb,yb,gb⟩:=trod_at (i:=2) (o:=2) (ft:=23) (by kernel_rfl) h
 rw [show Tryz.prog.cellsOf 23=2 by kernel_rfl] at gb
 obtain ⟨z1,h1,g1⟩:=trod_int_field (i:=0) (o:=0) (by kernel_rfl) (by rw [List.length_take,List.length_drop];omega) gb
 obtain ⟨z2,h2,g2⟩:=trod_int_field (i:=1) (o:=1) (by kernel_rfl) (by rw [List.length_take,List.length_drop];omega) gb
 obtain ⟨mf,yf,gf⟩:=trod_at (i:=11) (o:=12) (ft:=26) (by kernel_rfl) h
 rw [show Tryz.prog.cellsOf 26=3 by kernel_rfl] at gf
 obtain ⟨c,hc,gc⟩:=trod_int_field (i:=0) (o:=0) (by kernel_rfl) (by rw [List.length_take,List.length_drop];omega) gf
 obtain ⟨r,hr,gr⟩:=trod_int_field (i:=1) (o:=1) (by kernel_rfl) (by rw [List.length_take,List.length_drop];omega) gf
 obtain ⟨ms,ys,gs⟩:=trod_at (i:=2) (o:=2) (ft:=24) (by kernel_rfl) gf
 rw [show Tryz.prog.cellsOf 24=1 by kernel_rfl,take_take_drop (by omega)] at gs
 obtain ⟨ml,yl,gl⟩:=trod_at (i:=12) (o:=15) (ft:=27) (by kernel_rfl) h
 rw [show Tryz.prog.cellsOf 27=1 by kernel_rfl] at gl
 obtain ⟨mt,yt,gt⟩:=trod_at (i:=0) (o:=0) (ft:=9) (by kernel_rfl) h
 rw [show Tryz.prog.cellsOf 9=1 by kernel_rfl] at gt
 obtain ⟨T,hT,_,hTz⟩:=DataW.trod_string Tryz.underlying9 gt
 have hT0:cs[0]?=some (.string T):=by
  have:((cs.drop 0).take 1)[0]?=some (.string T):=by rw [hT];rfl
  simpa using this
 obtain ⟨a,len,cap,es,ws⟩:∃ (a:Option Addr) (len cap:Nat),(cs.drop 14).take 1=[Value.slice a len cap]∧((a=none∧len=0∧cap=0)∨∃ x,a=some x∧len≤cap∧cap≤maxLen∧∀ i,i<len→(∃ z,w.cell? (x.add (i*3+0))=some (.int .i64 z)∧(Lit.int .i64 z).wf=true)∧(∃ z,w.cell? (x.add (i*3+1))=some (.int .i64 z)∧(Lit.int .i64 z).wf=true)∧(∃ z,w.cell? (x.add (i*3+2))=some (.bool z))):=by
  rcases open_cell_structs Tryz.underlying24 Tryz.underlying58 (by kernel_rfl) (by kernel_rfl) gs with hcs | ⟨x,l,c,hcs,hl,hm,hV⟩
  ·exact ⟨none,0,0,hcs,.inl ⟨rfl,rfl,rfl⟩⟩
  ·exact ⟨some x,l,c,hcs,.inr ⟨x,rfl,hl,hm,fun i hi=>⟨fit_int Tryz.underlying3 (hV i hi 0 _ rfl),fit_int Tryz.underlying3 (hV i hi 1 _ rfl),fit_bool Tryz.underlying4 (hV i hi 2 _ rfl)⟩⟩⟩
 obtain ⟨a',len',cap',el,wl⟩:∃ (a:Option Addr) (len cap:Nat),(cs.drop 15).take 1=[Value.slice a len cap]∧((a=none∧len=0∧cap=0)∨∃ x,a=some x∧len≤cap∧cap≤maxLen∧∀ i,i<len→∃ z:ByteArray,w.cell? (x.add i)=some (.string z)∧z.size≤maxLen):=by
  rcases open_strings Tryz.underlying27 Tryz.underlying9 (by kernel_rfl) gl with ⟨hcs,_⟩ | ⟨x,l,c,ss,hcs,_,hl,hm,hz,_,hcell,hwz⟩
  ·exact ⟨none,0,0,hcs,.inl ⟨rfl,rfl,rfl⟩⟩
  ·refine ⟨some x,l,c,hcs,.inr ⟨x,rfl,hl,hm,fun i hi=>?_⟩⟩
   have hlen:i<ss.length:=by rw [hz];split<;>omega
   exact ⟨_,hcell i hlen,hwz _ (by simp [List.getD_eq_getElem?_getD,List.getElem?_eq_getElem hlen])⟩
 have e14:cs[14]?=some (.slice a len cap):=by
  have:((cs.drop 14).take 1)[0]?=some (.slice a len cap):=by rw [es];rfl
  simpa using this
 have e15:cs[15]?=some (.slice a' len' cap'):=by
  have:((cs.drop 15).take 1)[0]?=some (.slice a' len' cap'):=by rw [el];rfl
  simpa using this
 have e2:cs[2]?=some (.int .i64 z1):=by simpa using h1
 have e3:cs[3]?=some (.int .i64 z2):=by simpa using h2
 have e12:cs[12]?=some (.int .i64 c):=by simpa using hc
 have e13:cs[13]?=some (.int .i64 r):=by simpa using hr
 obtain ⟨l,hll,hI⟩:=steps_of a len cap w ws
 obtain ⟨ls,hls,hA,hz⟩:=textsA_of a' len' cap' w wl
 subst hll hls
 have hall:∀ z∈[z0,z1,z2,z3,z4,z5,z6,z7,z8,z9,z10,z11,z12,z13,z14,z15,z16,z17,z18,z19,z20,z21,z22,z23,z24,z25,z26,z27],-9223372036854775808≤z∧z≤9223372036854775807:=by
  simp only [List.mem_cons,List.not_mem_nil,or_false,forall_eq_or_imp,forall_eq]
  exact ⟨wf_int g0,wf_int g1,wf_int g2,wf_int g3,wf_int g4,wf_int g5,wf_int g6,wf_int g7,wf_int g8,wf_int g9,wf_int g10,wf_int g11,wf_int g12,wf_int g13,wf_int g14,wf_int g15,wf_int g16,wf_int g17,wf_int g18,wf_int g19,wf_int g20,wf_int g21,wf_int g22,wf_int g23,wf_int g24,wf_int g25,wf_int g26,wf_int g27⟩
 obtain ⟨n,hn⟩:∃ n:Nat→Int,n=fun i=>([z0,z1,z2,z3,z4,z5,z6,z7,z8,z9,z10,z11,z12,z13,z14,z15,z16,z17,z18,z19,z20,z21,z22,z23,z24,z25,z26,z27]:List Int).getD i 0:=⟨_,rfl⟩
 refine ⟨⟨T.data.toList,n,⟨c,r,l⟩,ls⟩,⟨⟨a,cap,a',cap',?_,hI,hA⟩,by simp only;rw [size_data];exact hTz,hz⟩,(fun i=>by
  simp only [hn,List.getD_eq_getElem?_getD]
  by_cases hi:i < [z0,z1,z2,z3,z4,z5,z6,z7,z8,z9,z10,z11,z12,z13,z14,z15,z16,z17,z18,z19,z20,z21,z22,z23,z24,z25,z26,z27].length
  ·rw [List.getElem?_eq_getElem hi]
   exact hall _ (List.getElem_mem hi)
  ·rw [List.getElem?_eq_none (by omega)]
   decide),(wf_int gc).2,(wf_int gr).2⟩
 rw [tx_data]
 subst hn
 apply List.ext_getElem?
 intro k
 by_cases hk:k<33
 ·have hw:k=0∨k=1∨k=2∨k=3∨k=4∨k=5∨k=6∨k=7∨k=8∨k=9∨k=10∨k=11∨k=12∨k=13∨k=14∨k=15∨k=16∨k=17∨k=18∨k=19∨k=20∨k=21∨k=22∨k=23∨k=24∨k=25∨k=26∨k=27∨k=28∨k=29∨k=30∨k=31∨k=32:=by omega
  rcases hw with rfl | rfl | rfl | rfl | rfl | rfl | rfl | rfl | rfl | rfl | rfl | rfl | rfl | rfl | rfl | rfl | rfl | rfl | rfl | rfl | rfl | rfl | rfl | rfl | rfl | rfl | rfl | rfl | rfl | rfl | rfl | rfl | rfl
  all_goals first
   | exact hT0
   | exact e2
   | exact e3
   | exact e12
   | exact e13
   | exact e14
   | exact e15
   | exact h0
   | exact h3
   | exact h4
   | exact h5
   | exact h6
   | exact h7
   | exact h8
   | exact h9
   | exact h10
   | exact h11
   | exact h12
   | exact h13
   | exact h14
   | exact h15
   | exact h16
   | exact h17
   | exact h18
   | exact h19
   | exact h20
   | exact h21
   | exact h22
   | exact h23
   | exact h24
   | exact h25
   | exact h26
   | exact h27
 ·rw [List.getElem?_eq_none (by omega),List.getElem?_eq_none (by rw [jobL_length];omega)]
end
end Go.Proofs.YtbbjileignefbaaGreatDoor
namespace Go.Proofs.YtbbjileignefbaaGreatDoor
open Go.RowKit
def atO (j:Jb) (c x:Int):Option (Nat×Nat):=if x<0 then none else (bookM j c)[x.toNat]?
def Int64 (x:Int):Prop:=-9223372036854775808≤x∧x≤9223372036854775807
theorem int64_wf {x:Int} (h:(Lit.int .i64 x).wf=true):Int64 x:=wf_int h
theorem int64_nat {n:Nat} (h:n≤3200000):Int64 (n:Int):=by unfold Int64;omega
def OrdWhere:Prop:=∀ (cs:List Value) (j:Jb) (c x:Int) (w:World),JobA w cs j→WfF j→GoodM w→Int64 c→Int64 x →
 Calls Tryz.prog 34 #[.agg cs.toArray,.int .i64 c,.int .i64 x] w fun e w'=>e=.returned (.tuple #[.int .i64 ((atO j c x).getD (0,0)).1,.int .i64 ((atO j c x).getD (0,0)).2,.bool (atO j c x).isSome])∧Below w.heap.size w w'
theorem less_no (p:Int) (b s:Sc) (nm:List UInt8) (h:(findM nm).getD zeroSc=s) (u v:Bool) (e1:decide (p≤2*panM s.c s.r)=u) (e2:decide (2*panM s.c s.r<2*panM b.c b.r)=v) (hn:(u&&v)=false):lessM p b nm=b:=by
 unfold lessM
 rw [h]
 refine if_neg fun ⟨h1,h2⟩=>?_
 rw [←e1,←e2] at hn
 unfold panS at h1 h2
 rw [decide_eq_true h1,decide_eq_true (by omega)] at hn
 cases hn
theorem less_yes (p:Int) (b s:Sc) (nm:List UInt8) (h:(findM nm).getD zeroSc=s) (e1:decide (p≤2*panM s.c s.r)=true) (e2:decide (2*panM s.c s.r<2*panM b.c b.r)=true):lessM p b nm=s:=by
 unfold lessM
 rw [h]
 rw [decide_eq_true_eq] at e1 e2
 exact if_pos ⟨e1,by unfold panS;omega⟩
def EndRel (G:Nat→Prop) (p:Int) (f:Sc) (ls:List (List UInt8)) (k B:Nat) (w:World) (i:Value) (wr:World):Prop :=
 ∃ (j:Nat) (s:Sc) (a1:Option Addr) (c1:Nat),j≤k∧i=.int .i64 (j:Int)∧Hid ((ls.take j).foldl (lessM p) f=s)∧Hid (Bx wr (B+1) [.int .i64 0,.int .i64 0,.slice none 0 0])∧Hid (Bx wr (B+2) [.int .i64 s.c,.int .i64 s.r,.slice a1 s.l.length c1])∧Hid (LiG (fun b=>(b≠B+1∧b≠B+2)∧G b) wr a1 s.l)∧Hid (Below w.heap.size w wr)
set_option maxHeartbeats 2000000 in
theorem spEnd_core (cs:List Value) (c r:Int) (l:List Sp) (a a':Option Addr) (n cap k cap':Nat) (ls:List (List UInt8)) (p:Int) (w:World) (h12:cs[12]?=some (.int .i64 c)) (h13:cs[13]?=some (.int .i64 r)) (h14:cs[14]?=some (.slice a n cap)) (h15:cs[15]?=some (.slice a' k cap'))
  (hn:l.length=n) (G:Nat→Prop) (hGn:∀ b,w.heap.size≤b→G b) (hI:LiG G w a l) (hk:ls.length=k) (hT:TxA w a' cap' ls) (hk2:k≤maxLen) (hg:GoodM w) (R:Sc) (hR:ls.foldl (lessM p) ⟨c,r,l⟩=R) :
  Calls Tryz.prog 46 #[.agg cs.toArray,.int .i64 p] w fun e w'=>∃ a1 c1,e=.returned (.agg #[.int .i64 R.c,.int .i64 R.r,.slice a1 R.l.length c1])∧LiG G w' a1 R.l∧Below w.heap.size w w':=by
 have HRS:=Lib.hid hR
 clear hR
 unfold maxLen at hk2
 have X1:=Bx.new w 29 cs
 have U1:=up_alloc (Below.refl w.heap.size w) (.cells cs.toArray 29)
 have V1:=up_alloc (Below.refl _ (w.alloc (.cells cs.toArray 29))) (.cells #[.int .i64 0,.int .i64 0,.slice none 0 0] 26)
 have V2:=up_alloc V1 (.cells #[.int .i64 c,.int .i64 r,.slice a n cap] 26)
 have c12:=bl_cell V1 (X1.cell 12 h12);have c13:=bl_cell V1 (X1.cell 13 h13);have c14:=bl_cell V1 (X1.cell 14 h14)
 have c15:=bl_cell V2 (X1.cell 15 h15)
 have B1:=up_trans U1 V2
 have R1:=(Bx.new (w.alloc (.cells cs.toArray 29)) 26 [.int .i64 0,.int .i64 0,.slice none 0 0]).alloc (.cells #[.int .i64 c,.int .i64 r,.slice a n cap] 26)
 have L1:=Bx.new ((w.alloc (.cells cs.toArray 29)).alloc (.cells #[.int .i64 0,.int .i64 0,.slice none 0 0] 26)) 26 [.int .i64 c,.int .i64 r,.slice a n cap]
 have HI:=Lib.hid (hI.old.mono (G':=fun b=>(b≠w.heap.size+1∧b≠w.heap.size+2)∧G b) (fun b hb=>⟨by omega,hb.1⟩))
 have HT:=Lib.hid hT;have HG:=Lib.hid hg;have HK:=Lib.hid hk;have HN:=Lib.hid hn
 simp only [World.size_alloc] at c12 c13 c14 c15 R1 L1
 clear X1 U1 V1 V2 hT hI hg hk hn h12 h13 h14 h15
 generalize cs.toArray=ca at *
 have HR1:=Lib.hid R1;have HL1:=Lib.hid L1;have HB1:=Lib.hid B1
 clear R1 L1 B1
 go_enter Tryz.func46,Tryz.ntmps46
 go_wp2
 obtain ⟨w1,hw1⟩:∃ w1,((w.alloc (.cells ca 29)).alloc (.cells #[.int .i64 0,.int .i64 0,.slice none 0 0] 26)).alloc (.cells #[.int .i64 c,.int .i64 r,.slice a n cap] 26)=w1:=⟨_,rfl⟩
 rw [hw1] at HR1 HL1 HB1 ⊢
 clear hw1 c12 c13 c14 c15
 go_loopw [15] (EndRel G p ⟨c,r,l⟩ ls k w.heap.size w) (fun i _=>k-(intOf i).toNat)
 case atStart=>exact ⟨0,⟨c,r,l⟩,a,cap,by omega,by go_num,Lib.hid rfl,HR1,by rw [HN.out];exact HL1,Lib.hid (HI.out.up HB1.out),HB1⟩
 case round =>
  obtain ⟨j,s,a1,c1,hj,rfl,HS,HR,HL,HI1,HB⟩:=hrel
  by_cases hlt:j<k
  ·obtain ⟨z,hx⟩:∃ x,ls[j]?=some x:=⟨ls[j]'(by rw [HK.out];exact hlt),List.getElem?_eq_getElem _⟩
   obtain ⟨g,o,rfl,hc,-,-⟩:=HT.out.resolve_left (by rintro rfl;cases hx)
   have hcx:=bl_cell HB.out (hc j z hx)
   have z0:(0:Int)≤(j:Int):=by omega
   have z3:(j:Int)<(k:Int):=by omega
   have htk:=Lib.hid (take_next hx)
   have HF:=Lib.hid (schFind_any z wr (HG.out.below HB.out))
   obtain ⟨t,ht⟩:∃ t,(findM z).getD zeroSc=t:=⟨_,rfl⟩
   unfold GivesS at HF
   rw [ht] at HF
   have HTS:=Lib.hid ht
   generalize (findM z).isSome=fb at *
   generalize tx z=Z at *
   clear hx hc ht
   go_wp2_with fail
   refine (HF.out).mono ?_
   rintro e w3 ⟨a3,c3,rfl,hF,hb⟩
   have S:=Bx.new w3 26 [.int .i64 t.c,.int .i64 t.r,.slice a3 t.l.length c3]
   have U:=up_alloc (Below.refl w3.heap.size w3) (.cells #[.int .i64 t.c,.int .i64 t.r,.slice a3 t.l.length c3] 26)
   have B4:=Lib.hid (up_trans HB.out (up_trans hb U))
   have HR4:=Lib.hid ((HR.out.up hb).up U)
   have HL4:=Lib.hid ((HL.out.up hb).up U)
   have HI4:=Lib.hid ((HI1.out.up hb).up U)
   have hlow:=HL.out.lt
   have HF4:=Lib.hid ((hF.liG.mono (G':=fun b=>(b≠w.heap.size+1∧b≠w.heap.size+2)∧G b) (fun b hb=>⟨by omega,hGn b (by have:=HB.out.size;omega)⟩)).up U)
   have hne:w.heap.size+2≠w3.heap.size:=by have:=hb.size;omega
   clear hb U hF
   go_wp2_with fail
   obtain ⟨w4,hw4⟩:∃ w4,w3.alloc (.cells #[.int .i64 t.c,.int .i64 t.r,.slice a3 t.l.length c3] 26)=w4:=⟨_,rfl⟩
   rw [hw4] at S B4 HR4 HL4 HI4 HF4 ⊢
   clear hw4
   have j0:=fun x:Later w4=>x.cell (S.cell 0 rfl)
   have j1:=fun x:Later w4=>x.cell (S.cell 1 rfl)
   have j2:=fun x:Later w4=>x.cell (S.cell 2 rfl)
   have i0:=fun x:Later w4=>x.cell (HL4.out.cell 0 rfl)
   have i1:=fun x:Later w4=>x.cell (HL4.out.cell 1 rfl)
   have i2:=fun x:Later w4=>x.cell (HL4.out.cell 2 rfl)
   have K1:=fun w1=>spTakes_any t.c t.r a3 t.l.length c3 w1
   have K2:=fun w1=>spTakes_any s.c s.r a1 s.l.length c1 w1
   have hno:=less_no p s t z HTS.out
   have hye:=less_yes p s t z HTS.out
   obtain ⟨q3,hq3⟩:∃ q3,2*panM t.c t.r=q3:=⟨_,rfl⟩
   obtain ⟨qs,hqs⟩:∃ qs,2*panM s.c s.r=qs:=⟨_,rfl⟩
   rw [hq3] at K1 hno hye
   rw [hqs] at K2 hno hye
   obtain ⟨u,hu⟩:∃ u,decide (p≤q3)=u:=⟨_,rfl⟩
   obtain ⟨v,hv⟩:∃ v,decide (q3<qs)=v:=⟨_,rfl⟩
   have HN:=Lib.hid (hno u v hu hv)
   rw [hu,hv] at hye
   have HY:=Lib.hid hye
   have HK1:=Lib.hid K1;have HK2:=Lib.hid K2
   have HSb:=Lib.hid S
   clear K1 K2 hno hye hq3 hqs S
   cases u
   ·clear hv i0 i1 i2
    refine later_start (w:=w4) ?_
    intro x
    refine wp_region_later (by kernel_rfl) (by kernel_rfl) ?_
    repeat (go_big_quiet_step ((go_at_call 45;with_reducible exact Later.call (HK1.out _))))
    refine wpQuiet_nil ?_
    rintro _ ⟨x2,rfl⟩
    clear j0 j1 j2
    go_wp2
    go_roundw
    case rel=>exact ⟨j+1,s,a1,c1,by omega,by go_num,Lib.hid (by rw [htk.out,List.foldl_append,HS.out];exact HN.out rfl),Lib.hid (HR4.out.up x2.up),Lib.hid (HL4.out.up x2.up),Lib.hid (HI4.out.up x2.up),Lib.hid (up_trans B4.out x2.up)⟩
    case measure=>simp [intOf];omega
   cases v
   ·refine later_start (w:=w4) ?_
    intro x
    refine wp_region_later (by kernel_rfl) (by kernel_rfl) ?_
    repeat (go_big_quiet_step ((go_at_call 45;first | with_reducible exact Later.call (HK1.out _) | with_reducible exact Later.call (HK2.out _))))
    refine wpQuiet_nil ?_
    rintro _ ⟨x2,rfl⟩
    clear j0 j1 j2 i0 i1 i2
    go_wp2
    go_roundw
    case rel=>exact ⟨j+1,s,a1,c1,by omega,by go_num,Lib.hid (by rw [htk.out,List.foldl_append,HS.out];exact HN.out rfl),Lib.hid (HR4.out.up x2.up),Lib.hid (HL4.out.up x2.up),Lib.hid (HI4.out.up x2.up),Lib.hid (up_trans B4.out x2.up)⟩
    case measure=>simp [intOf];omega
   ·refine later_start (w:=w4) ?_
    intro x
    refine wp_region_later (by kernel_rfl) (by kernel_rfl) ?_
    repeat (go_big_quiet_step ((go_at_call 45;first | with_reducible exact Later.call (HK1.out _) | with_reducible exact Later.call (HK2.out _))))
    refine wpQuiet_nil ?_
    rintro _ ⟨x2,rfl⟩
    have L5:=HL4.out.up x2.up
    have R5:=HR4.out.up x2.up
    have BB:=up_trans B4.out x2.up
    have F5:=HF4.out.up x2.up
    have d0:=j0 x2;have d1:=j1 x2;have d2:=j2 x2
    have lf:=L5.free
    have l0:=L5.cell 0 rfl;have l1:=L5.cell 1 rfl;have l2:=L5.cell 2 rfl
    clear j0 j1 j2 i0 i1 i2
    go_wp2
    go_roundw
    case rel =>
     refine ⟨j+1,t,a3,c3,by omega,by go_num,Lib.hid (by rw [htk.out,List.foldl_append,HS.out];exact HY.out rfl rfl),Lib.hid ?_,Lib.hid (L5.set3 _ _ _),Lib.hid ?_,Lib.hid ?_⟩
     ·exact ((R5.far (p:=⟨w.heap.size+2,0,none⟩) (by simp only;omega) _).far (p:=⟨w.heap.size+2,1,none⟩) (by simp only;omega) _).far (p:=⟨w.heap.size+2,2,none⟩) (by simp only;omega) _
     ·exact ((F5.set (p:=⟨w.heap.size+2,0,none⟩) (by simp only;omega) _).set (p:=⟨w.heap.size+2,1,none⟩) (by simp only;omega) _).set (p:=⟨w.heap.size+2,2,none⟩) (by simp only;omega) _
     ·exact up_set (up_set (up_set BB (by simp only;omega) _) (by simp only;omega) _) (by simp only;omega) _
    case measure=>simp [intOf];omega
  ·obtain rfl:j=k:=by omega
   have hall:ls.take j=ls:=List.take_of_length_le (by rw [HK.out];omega)
   have hs:=HS.out
   rw [hall,HRS.out] at hs
   subst hs
   have l0:=HL.out.cell 0 rfl;have l1:=HL.out.cell 1 rfl;have l2:=HL.out.cell 2 rfl
   have r0:=HR.out.cell 0 rfl;have r1:=HR.out.cell 1 rfl;have r2:=HR.out.cell 2 rfl;have rf:=HR.out.free
   clear hall
   go_wp2
   have R6:=HR.out.set3 (.int .i64 R.c) (.int .i64 R.r) (.slice a1 R.l.length c1)
   have p0:=R6.cell 0 rfl;have p1:=R6.cell 1 rfl;have p2:=R6.cell 2 rfl
   refine bodyPost_ret (v:=.agg #[.int .i64 R.c,.int .i64 R.r,.slice a1 R.l.length c1]) (by simp [results,Tryz.results46,go_sem,p0,p1,p2]) rfl ⟨a1,c1,rfl,?_,?_⟩
   ·exact (((HI1.out.set (p:=⟨w.heap.size+1,0,none⟩) (by simp only;omega) _).set (p:=⟨w.heap.size+1,1,none⟩) (by simp only;omega) _).set (p:=⟨w.heap.size+1,2,none⟩) (by simp only;omega) _).mono fun b hb=>hb.2
   ·exact up_set (up_set (up_set HB.out (by simp only;omega) _) (by simp only;omega) _) (by simp only;omega) _
theorem spEnd_any (cs:List Value) (j:Jb) (p:Int) (w:World) (h:JobA w cs j) (hg:GoodM w) (G:Nat→Prop) (hGn:∀ b,w.heap.size≤b→G b) (hG:∀ a c,cs[14]?=some (.slice a j.f.l.length c)→LiG G w a j.f.l) :
  Calls Tryz.prog 46 #[.agg cs.toArray,.int .i64 p] w fun e w'=>∃ a1 c1,e=.returned (.agg #[.int .i64 (endM j p).c,.int .i64 (endM j p).r,.slice a1 (endM j p).l.length c1])∧LiG G w' a1 (endM j p).l∧Below w.heap.size w w':=by
 obtain ⟨a,c,a',c',h12,h13,h14,h15,hI,hT⟩:=h.cells
 exact spEnd_core cs _ _ j.f.l a a' _ c _ c' j.ls p w h12 h13 h14 h15 rfl G hGn (hG a c h14) rfl hT (by rcases hT with e | ⟨g,o,e,h,h1,h2⟩;simp [e,maxLen];omega) hg _ rfl
end Go.Proofs.YtbbjileignefbaaGreatDoor
namespace Go.Proofs.YtbbjileignefbaaGreatDoor
open Go.RowKit
def takeable (o:Oper):Bool:=match o.op with
 | .move _ | .assign _ | .pick .. | .load .. | .fieldAddr .. | .indexAddr .. | .binOp .. | .unOp .. | .build .. | .field .. | .index ..  | .convert .. | .extract .. | .slice ..=>true
 | _=>false
theorem value_of {P:Program} {m:Sem Value} {w w':World} {n:Next} (h:(m >>= fun x=>pure (Next.value x)).run P w=.ok n w'):∃ u,n=.value u:=by
 rw [Sem.run_bind] at h
 cases hm:m.run P w with
 | ok x w1=>rw [hm] at h;cases h;exact ⟨x,rfl⟩
 | halt x w1=>rw [hm] at h;cases h
theorem bool_of {P:Program} {m:Sem Bool} {x y:Value} {w w':World} {n:Next} (h:(m >>= fun b=>pure (Next.value (if b=true then x else y))).run P w=.ok n w'):∃ u,n=.value u:=by
 rw [Sem.run_bind] at h
 cases hm:m.run P w with
 | ok b w1=>rw [hm] at h;cases h;exact ⟨_,rfl⟩
 | halt b w1=>rw [hm] at h;cases h
theorem takeable_value {P:Program} {o:Oper} {ρ:Operand→Value} {w w':World} {n:Next} (ht:takeable o=true) (h:(execOp ρ o).run P w=.ok n w'):∃ u,n=.value u:=by
 unfold takeable at ht
 unfold execOp at h
 split at ht
 all_goals first
  | exact absurd ht (by decide)
  | (rename_i e;rw [e] at h;exact value_of h)
  | (rename_i e;rw [e] at h;cases h;exact ⟨_,rfl⟩)
  | (rename_i e;rw [e] at h;exact bool_of h)
def takesB (ops:Array Oper):Array Bool→List Nat→Option (Array Bool)
 | s,[]=>some s
 | s,i :: r=>if (Region.ready .any ops s).contains i&&Region.free .any ops s i&&(ops[i]?.map takeable).getD false then takesB ops (s.setIfInBounds i true) r else none
def planB (ops:Array Oper):Array Bool→List (List Nat×Nat)→List Nat→Bool
 | s,[],fin=>match takesB ops s fin with
  | some s'=>(Region.ready .any ops s').isEmpty
  | none=>false
 | s,(is,c) :: r,fin=>match takesB ops s is with
  | some s'=>decide (Region.ready .any ops s'=[c])&&planB ops (s'.setIfInBounds c true) r fin
  | none=>false
def planOk (l:List Oper) (plan:List (List Nat×Nat)) (fin:List Nat):Bool:=Region.noSelect l.toArray&&planB l.toArray (Array.replicate l.length false) plan fin
def noOper : Oper := { dst := none, op := .move (.tmp 0), type := 0, pos := "", after := #[], guard := none }
def walkC (P:Program) (l:List Oper) (Q:Exit→Act→World→Prop) (S:World→Prop):List (List Nat×Nat)→List Nat→Act→World→Prop
 | [],fin,a,w=>wpQuiet P l.toArray S (fun a'=>Q .normal a' w) (fin.map fun i=>l.getD i noOper) a
 | (is,c) :: r,fin,a,w=>wpQuiet P l.toArray S (fun a'=>∀ o,l[c]?=some o→∀ K:Act→World→Prop,Shut (∀ a w,S w→walkC P l Q S r fin a w→K a w) →
   if Region.wanted o (yielded l.toArray a'.tmps)=true then Oper.wp P o a' w K Q else K (a'.put o.dst undef) w) (is.map fun i=>l.getD i noOper) a
section
variable {P:Program} {l:List Oper} {Q:Exit→Act→World→Prop} {S:World→Prop}
theorem walkC_take {is:List Nat} {c:Nat} {r:List (List Nat×Nat)} {fin:List Nat} {a:Act} {w:World} (oc:Oper) (hc:l[c]?=some oc)
  (h:∀ K0:Act→Prop,Shut (∀ a',(∀ K:Act→World→Prop,Shut (∀ a w,S w→walkC P l Q S r fin a w→K a w)→if Region.wanted oc (yielded l.toArray a'.tmps)=true then Oper.wp P oc a' w K Q else K (a'.put oc.dst undef) w)→K0 a') →
   wpQuiet P l.toArray S K0 (is.map fun i=>l.getD i noOper) a):walkC P l Q S ((is,c) :: r) fin a w:=by
 refine h _ (fun a' h' o ho=>?_)
 rw [hc] at ho
 cases ho
 exact h'
theorem walkC_last {fin:List Nat} {a:Act} {w:World} (h:∀ K0:Act→Prop,Shut (∀ a',Q .normal a' w→K0 a')→wpQuiet P l.toArray S K0 (fin.map fun i=>l.getD i noOper) a):walkC P l Q S [] fin a w :=
 h _ (fun _ h=>h)
theorem takes_list (hsel:Region.noSelect l.toArray=true) (hQ:∀ c (a:Act) d v w,Q (.panic c) (a.put d v) w→Q (.panic c) a w) {w:World} (hS:S w) (fuel:Nat) :
  ∀ (is:List Nat) (s s':Array Bool) (a:Act),takesB l.toArray s is=some s'→wpQuiet P l.toArray S (fun a'=>wpAnyH P .any l.toArray Q S fuel s' a' w) (is.map fun i=>l.getD i noOper) a→wpAnyH P .any l.toArray Q S (fuel+is.length) s a w
 | [],s,s',a,h,hq=>by
  simp only [takesB,Option.some.injEq] at h
  subst h
  exact hq
 | i :: r,s,s',a,h,hq=>by
  unfold takesB at h
  split at h
  ·rename_i hc
   simp only [Bool.and_eq_true] at hc
   obtain ⟨⟨h1,h2⟩,h3⟩:=hc
   cases ho:l[i]? with
   | none=>rw [show l.toArray[i]?=none by simpa using ho] at h3;cases h3
   | some o =>
    have ho':l.toArray[i]?=some o:=by simpa using ho
    rw [ho'] at h3
    simp only [Option.map_some,Option.getD_some] at h3
    rw [List.map_cons,List.getD_eq_getElem?_getD,ho,Option.getD_some] at hq
    have go:∀ v,YieldsIf P l.toArray S o v a→wpQuiet P l.toArray S (fun a'=>wpAnyH P .any l.toArray Q S fuel s' a' w) (r.map fun i=>l.getD i noOper) (a.put o.dst v)→wpAnyH P .any l.toArray Q S (fuel+(i :: r).length) s a w:=fun v hy hv =>
     wpAnyH_take ho' hsel h2 h1 (fun c a w h=>hQ c a _ _ w h) hy hS (takes_list hsel hQ hS fuel r _ s' _ h hv)
    simp only [wpQuiet] at hq
    split at hq
    ·rename_i hw
     obtain ⟨v,hv,hr⟩:=hq
     refine go v (.inl ⟨hw,fun w hw=>?_⟩) hr
     have:=hv w hw
     unfold Oper.quietAt at this
     cases hrun:(execOp a.eval o).run P w with
     | ok n w' =>
      obtain ⟨u,rfl⟩:=takeable_value h3 hrun
      rw [hrun] at this
      simp only [Oper.quietUpon] at this
      rw [this.1,this.2]
     | halt x w'=>rw [hrun] at this;exact this.elim
    ·rename_i hw
     exact go undef (.inr ⟨by simpa using hw,rfl⟩) hq
  ·cases h
theorem walkC_wp (hsel:Region.noSelect l.toArray=true) (hQ:∀ c (a:Act) d v w,Q (.panic c) (a.put d v) w→Q (.panic c) a w) (fin:List Nat) :
  ∀ (plan:List (List Nat×Nat)) (s:Array Bool) (a:Act) (w:World),S w→planB l.toArray s plan fin=true→walkC P l Q S plan fin a w→∀ fuel,wpAnyH P .any l.toArray Q S ((plan.map fun x=>x.1.length+1).sum+fin.length+fuel) s a w
 | [],s,a,w,hS,hB,h,fuel=>by
  simp only [planB] at hB
  split at hB
  ·rename_i s' hs
   have hr:Region.ready .any l.toArray s'=[]:=by simpa using hB
   have H:∀ (m:List Oper) (a:Act),wpQuiet P l.toArray S (fun a'=>Q .normal a' w) m a→wpQuiet P l.toArray S (fun a'=>wpAnyH P .any l.toArray Q S fuel s' a' w) m a:=by
    intro m
    induction m with
    | nil=>intro a h;exact wpAnyH_done hr h _
    | cons o m ih =>
     intro a h
     simp only [wpQuiet] at h ⊢
     split
     ·rename_i hw
      rw [if_pos hw] at h
      obtain ⟨v,h1,h2⟩:=h
      exact ⟨v,h1,ih _ h2⟩
     ·rename_i hw
      rw [if_neg hw] at h
      exact ih _ h
   have:=takes_list hsel hQ hS fuel fin s s' a hs (H _ _ h)
   rwa [show ([]:List (List Nat×Nat)).map (fun x=>x.1.length+1)=[] from rfl,List.sum_nil,Nat.zero_add,Nat.add_comm]
  ·cases hB
 | (is,c) :: r,s,a,w,hS,hB,h,fuel=>by
  simp only [planB] at hB
  split at hB
  ·rename_i s' hs
   simp only [Bool.and_eq_true,decide_eq_true_eq] at hB
   obtain ⟨hr,hB⟩:=hB
   have hmem:c∈Region.ready .any l.toArray s':=by rw [hr];simp
   obtain ⟨-,o,ho,-⟩:=mem_ready.1 hmem
   have ho':l[c]?=some o:=by simpa using ho
   have H:∀ (m:List Oper) (a:Act),wpQuiet P l.toArray S (fun a'=>∀ o,l[c]?=some o→∀ K:Act→World→Prop,Shut (∀ a w,S w→walkC P l Q S r fin a w→K a w) →
     if Region.wanted o (yielded l.toArray a'.tmps)=true then Oper.wp P o a' w K Q else K (a'.put o.dst undef) w) m a→wpQuiet P l.toArray S (fun a'=>wpAnyH P .any l.toArray Q S ((r.map fun x=>x.1.length+1).sum+fin.length+fuel+1) s' a' w) m a:=by
    intro m
    induction m with
    | nil =>
     intro a h
     refine wpAnyH_ready hr (by simp) (AllReadyH.cons ho (fun K hK=>h o ho' K (fun a w hS hW=>hK a w hS (fun hS=>walkC_wp hsel hQ fin r _ a w hS hB hW fuel))) AllReadyH.nil)
    | cons o m ih =>
     intro a h
     simp only [wpQuiet] at h ⊢
     split
     ·rename_i hw
      rw [if_pos hw] at h
      obtain ⟨v,h1,h2⟩:=h
      exact ⟨v,h1,ih _ h2⟩
     ·rename_i hw
      rw [if_neg hw] at h
      exact ih _ h
   have:=takes_list hsel hQ hS _ is s s' a hs (H _ _ h)
   rw [List.map_cons,List.sum_cons]
   rwa [show is.length+1+(r.map fun x=>x.1.length+1).sum+fin.length+fuel=(r.map fun x=>x.1.length+1).sum+fin.length+fuel+1+is.length by omega]
  ·cases hB
end
end Go.Proofs.YtbbjileignefbaaGreatDoor
