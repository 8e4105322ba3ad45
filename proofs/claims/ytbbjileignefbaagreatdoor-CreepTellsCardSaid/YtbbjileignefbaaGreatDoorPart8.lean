/- Part 8 of the texts that the proofs of this seat share: UnfoldFolded, Panels, UnfoldPerm, PileSeq, UnfoldOf, RowI, UnfoldOrder, RefRows. -/
import Derived.Test.YtbbjileignefbaaGreatDoorPart7
import Derived.Test.YtbbjileignefbaaGreatDoorProg
import Derived.Test.YtbbjileignefbaaGreatDoorPart3
import Derived.Test.YtbbjileignefbaaGreatDoorPart4
import Derived.Laws.MakeOwn
import Derived.RangeFuncNested
import Derived.RangeFuncBound
import Derived.RangeFuncCalls
import Derived.RangeFuncLeaves
import Derived.Shelf.Abstract
import Derived.Shelf.RegionOpen
import Derived.WalkKit
import Derived.OwnWalkIn
import Derived.TacticsInMore
import Derived.LoopNIn
import Derived.LoopIn
import Derived.Maps.AppendAt
import Derived.Lib.SliceRun
import Derived.Test.YtbbjileignefbaaGreatDoorPart5
import Derived.Test.YtbbjileignefbaaGreatDoorPart1
import Derived.Deep.AppendLies
import Derived.Lib.Hide
import Derived.Maps.OwnIn
set_option linter.unusedVariables false
namespace Go.Proofs.YtbbjileignefbaaGreatDoor
open Go.RowKit
def goL:Int→Int→List Rp→List Sp→List Rp
 | _,_,l,[]=>l
 | c,r,l,p :: ps=>goL (newC p.d p.n c) (newR p.d p.n r) (stepR p.d p.n p.u c r l) ps
def initL (c r:Int):List Rp:=(List.range (c*r).toNat).map fun (k:Nat)=>⟨(k:Int),(k:Int).tmod c,(k:Int).tdiv c,false,false⟩
def foldL (s:Sc):List Rp:=goL s.c s.r (initL s.c s.r) s.l
theorem can_aft {c r d n c' r':Int} (h:aft c r d n=(c',r',true)):Can d n c r∧c'=newC d n c∧r'=newR d n r:=by
 obtain ⟨⟨h0,h1⟩,h2⟩:=aft_yes (c:=c) (r:=r) (d:=d) (n:=n) (by rw [h])
 rcases h2 with ⟨e1,e2,e⟩ | ⟨e1,e2,e⟩
 ·rw [h] at e
  simp only [Prod.mk.injEq] at e
  exact ⟨⟨h1.1.1,h1.1.2,h1.2.1,h0.1,h0.2,by rw [if_pos e1];exact e2⟩,by unfold newC;rw [if_pos e1];exact e.1,by unfold newR;rw [if_pos e1];exact e.2.1⟩
 ·rw [h] at e
  simp only [Prod.mk.injEq] at e
  have e1':¬ d≤2:=by omega
  exact ⟨⟨h1.1.1,h1.1.2,h1.2.1,h0.1,h0.2,by rw [if_neg e1'];exact e2⟩,by unfold newC;rw [if_neg e1'];exact e.1,by unfold newR;rw [if_neg e1'];exact e.2.1⟩
theorem allM_first {c r:Int} {p:Sp} {l:List Sp} (h:allM c r (p :: l)=(1,1,true)):Can p.d p.n c r∧allM (newC p.d p.n c) (newR p.d p.n r) l=(1,1,true):=by
 cases hz:(aft c r p.d p.n).2.2
 ·rw [allM_no (aft_no hz)] at h
  cases h
 ·obtain ⟨x',y',hz'⟩:∃ x' y',aft c r p.d p.n=(x',y',true):=⟨(aft c r p.d p.n).1,(aft c r p.d p.n).2.1,by rw [←hz]⟩
  obtain ⟨h1,rfl,rfl⟩:=can_aft hz'
  rw [allM_yes hz'] at h
  exact ⟨h1,h⟩
theorem right_bounds {s:Sc} (h:rightM s=true):(1≤s.c∧s.c≤64)∧(1≤s.r∧s.r≤64)∧s.c*s.r≤64∧s.l.length≤6∧allM s.c s.r s.l=(1,1,true):=by
 unfold rightM at h
 simp only [Bool.and_eq_true,decide_eq_true_eq,beq_iff_eq] at h
 obtain ⟨⟨h1,h2⟩,h3,h4,h5,h6⟩:=h
 unfold panM at h1 h2
 by_cases hs:(sideB s.c&&sideB s.r)=true
 ·rw [if_pos hs] at h1 h2
  rw [Bool.and_eq_true] at hs
  have s1:=sideB_true hs.1
  have s2:=sideB_true hs.2
  unfold allS at h4 h5 h6
  rw [if_pos ⟨s1.1,s2.1⟩] at h4 h5 h6
  exact ⟨s1,s2,h2,h3,Prod.ext h5 (Prod.ext h6 h4)⟩
 ·rw [if_neg hs] at h1
  omega
theorem init_in {c r:Int} (hc:1≤c) (hr:1≤r):InR c r (initL c r):=by
 intro p hp
 obtain ⟨k,hk,rfl⟩:=List.mem_map.1 hp
 have hp:0≤c*r:=Int.mul_nonneg (by omega) (by omega)
 obtain ⟨x,y,e1,e2,b0,b1,b2,b3,b4⟩:=split_place k c r hc (by have:=List.mem_range.1 hk;omega)
 simp only [e1,e2]
 omega
theorem init_length (c r:Int):(initL c r).length=(c*r).toNat:=by simp [initL]
theorem range_filter (n k:Nat) (hk:k<n):(List.range n).filter (fun i=>decide (i=k))=[k]:=by
 induction n with
 | zero=>omega
 | succ n ih =>
  rw [List.range_succ,List.filter_append]
  by_cases e:k=n
  ·subst e
   have:(List.range k).filter (fun i=>decide (i=k))=[]:=by
    rw [List.filter_eq_nil_iff]
    intro i hi
    have:=List.mem_range.1 hi
    simp
    omega
   rw [this]
   simp
  ·rw [ih (by omega)]
   have:¬ n=k:=fun h=>e h.symm
   simp [this]
theorem init_pile {c r x y:Int} (hc:1≤c) (hx:0≤x∧x<c) (hy:0≤y∧y<r):pileL (initL c r) x y=[⟨y*c+x,false,false⟩]:=by
 have hi:=idx_lt hx hy
 have h:(List.range (c*r).toNat).filter (fun (k:Nat)=>atB x y (⟨(k:Int),(k:Int).tmod c,(k:Int).tdiv c,false,false⟩:Rp))=[(y*c+x).toNat]:=by
  rw [←range_filter (c*r).toNat (y*c+x).toNat (by omega)]
  refine List.filter_congr fun k hk=>?_
  have hk:=List.mem_range.1 hk
  obtain ⟨x',y',e1,e2,b0,b1,b2,b3,b4⟩:=split_place k c r hc (by omega)
  rw [Bool.eq_iff_iff]
  simp only [atB,e1,e2,Bool.and_eq_true,decide_eq_true_eq]
  constructor
  ·rintro ⟨rfl,rfl⟩;omega
  ·intro h
   subst h
   obtain ⟨t1,t2⟩:=td y x c hy.1 hx.1 hx.2
   rw [show (((y*c+x).toNat:Nat):Int)=y*c+x by omega] at e1 e2
   exact ⟨e1.symm.trans t2,e2.symm.trans t1⟩
 unfold pileL initL
 rw [List.filter_map,List.map_map]
 show List.map _ ((List.range (c*r).toNat).filter (fun (k:Nat)=>atB x y (⟨(k:Int),(k:Int).tmod c,(k:Int).tdiv c,false,false⟩:Rp)))=_
 rw [h]
 simp [toPc]
 omega
theorem pile_all {l:List Rp} (h:InR 1 1 l):pileL l 0 0=l.map toPc:=by
 unfold pileL
 rw [List.filter_eq_self.2]
 intro p hp
 have:=h p hp
 simp [atB]
 omega
def FoldRel (w:World) (base n:Nat) (ls:List Sp) (F:List Rp) (g i:Value) (wr:World):Prop :=
 ∃ (k G:Nat) (c r:Int) (l:List Rp),k≤n∧g=.pointer (some ⟨G,0,none⟩)∧i=.int .i64 (k:Int)∧Hid (Sheet wr base G c r (pileL l))∧Hid (InR c r l)∧Hid (l.length≤64)∧Hid (allM c r (ls.drop k)=(1,1,true))∧Hid (goL c r l (ls.drop k)=F)∧Below w.heap.size w wr
set_option maxHeartbeats 1000000 in
theorem folded_yes (s:Sc) (a:Option Addr) (cap:Nat) (w:World) (hI:InL w a s.l) (hr:rightM s=true) :
  Calls Tryz.prog 108 #[.agg #[.int .i64 s.c,.int .i64 s.r,.slice a s.l.length cap]] w fun e w'=>∃ D R,e=.returned (.pointer (some ⟨D,0,none⟩))∧Dp w' w.heap.size D R ((foldL s).map toPc)∧Below w.heap.size w w':=by
 obtain ⟨hc,hrr,hm,hl6,hall⟩:=right_bounds hr
 have KR:=fun w1 (h:Below w.heap.size w w1)=>schRight_any s a cap w1 (by omega) (by omega) (by omega) (hI.up h)
 rw [hr] at KR
 have KF:=fun w1=>flat_any s.c s.r hc hrr w1
 have hgo:goL s.c s.r (initL s.c s.r) s.l=foldL s:=rfl
 have hlen0:(initL s.c s.r).length≤64:=by rw [init_length];omega
 have hin0:=init_in hc.1 hrr.1
 have hpl:=fun x y h1 h2=>init_pile (r:=s.r) (x:=x) (y:=y) hc.1 h1 h2
 obtain ⟨F,hF⟩:∃ F,foldL s=F:=⟨_,rfl⟩
 rw [hF] at hgo ⊢
 have HI:=Lib.hid hI;have HR:=Lib.hid KR;have HF:=Lib.hid KF;have HGo:=Lib.hid hgo;have HL0:=Lib.hid hlen0;have HN0:=Lib.hid hin0;have HPl:=Lib.hid hpl;have HAll:=Lib.hid hall
 obtain ⟨c,r,ls⟩:=s
 simp only at HI HR HF HGo HL0 HN0 HPl HAll hl6 hc ⊢
 clear hI KR KF hgo hlen0 hin0 hpl hall hF hr hrr hm
 obtain ⟨n,hn⟩:∃ n,ls.length=n:=⟨_,rfl⟩
 rw [hn] at hl6 HR ⊢
 have HN:=Lib.hid hn
 clear hn
 have hb0:=up_alloc (Below.refl _ w) (.cells #[.int .i64 c,.int .i64 r,.slice a n cap] 26)
 have HB0:=Lib.hid hb0
 clear hb0
 go_enter Tryz.func108,Tryz.ntmps108
 go_wp2_with fail
 refine (HR.out _ HB0.out).mono ?_
 rintro e w1 ⟨rfl,hb⟩
 have A1:=(Bx.new w 26 [.int .i64 c,.int .i64 r,.slice a n cap]).up hb
 have B1:=Lib.hid (up_trans HB0.out hb)
 have a0:=A1.cell 0 rfl;have a1:=A1.cell 1 rfl;have a2:=A1.cell 2 rfl
 clear hb
 go_wp2_with fail
 refine (HF.out _).mono ?_
 rintro e w2 hfl
 obtain ⟨G,rfl,hS,hb⟩:=sheet_flat hfl
 have A2:=A1.up hb
 have b2:=A2.cell 2 rfl
 have hS2:=Lib.hid (hS.piles (Q:=pileL (initL c r)) (fun x y h1 h2=>(HPl.out x y h1 h2).symm))
 have B2:=Lib.hid (up_trans B1.out hb)
 clear a0 a1 a2 hb A1 A2 hS hfl
 go_wp2
 have hsz:=B1.out.size
 go_loopw [3,19] (fun g i wr=>FoldRel w w1.heap.size n ls F g i wr) (fun _ i _=>n-(intOf i).toNat)
 case atStart=>exact ⟨0,G,c,r,initL c r,by omega,rfl,by go_num,hS2,HN0,HL0,by rw [List.drop_zero];exact HAll,by rw [List.drop_zero];exact HGo,B2.out⟩
 case round =>
  obtain ⟨k,G,c,r,l,hk,rfl,rfl,HS,HIn,HLn,HM,HG,hb⟩:=hrel
  by_cases hlt:k<n
  ·obtain ⟨p,hp⟩:∃ p,ls[k]?=some p:=⟨ls[k]'(by rw [HN.out];exact hlt),List.getElem?_eq_getElem _⟩
   obtain ⟨b,off,rfl,hc⟩:=HI.out.resolve_left (by rintro rfl;cases hp)
   obtain ⟨d0,d1,d2⟩:=hc.up hb k p hp
   have hd:=drop_step hp
   have hM:=HM.out
   rw [hd] at hM
   obtain ⟨hcan,hM2⟩:=allM_first hM
   have hG2:=HG.out
   rw [hd] at hG2
   have hsd:=HS.out.sides
   have KA:=fun w' (h:Below wr.heap.size wr w')=>sheet_after (HS.out.up h) hcan p.u (fun x y _ _=>Nat.le_trans (pile_length l x y) HLn.out) (Nat.le_trans (by have:=HS.out;obtain ⟨A,L,bk,R,S,g1,_,_,g4,_⟩:=this;have:=g1.pos;have:=(g4.dk _ ⟨0,this,rfl⟩);exact Nat.le_of_lt (Nat.lt_of_le_of_lt this.low this.ltD)) h.size)
   have hS':=fun w' G' (h:Sheet w' w1.heap.size G' (newC p.d p.n c) (newR p.d p.n r) (foldPl p.d p.n p.u c r (pileL l)))=>h.piles (Q:=pileL (stepR p.d p.n p.u c r l)) (fun x y h1 h2=>(step_piles hcan HIn.out h1 h2).symm)
   have hI2:=step_in (u:=p.u) hcan HIn.out
   have hL2:(stepR p.d p.n p.u c r l).length≤64:=by rw [step_length];exact HLn.out
   have hG3:goL (newC p.d p.n c) (newR p.d p.n r) (stepR p.d p.n p.u c r l) (ls.drop (k+1))=F:=hG2
   have z0:(0:Int)≤(k:Int):=by omega
   have z1:(k:Int)<(n:Int):=by omega
   have HA:=Lib.hid KA;have HS2:=Lib.hid hS';have HIn2:=Lib.hid hI2;have HL2:=Lib.hid hL2;have HG3:=Lib.hid hG3;have HM2:=Lib.hid hM2;have HB:=Lib.hid hb
   obtain ⟨pd,pn,pu⟩:=p
   simp only at d0 d1 d2 HA HS2 HIn2 HL2 HG3 HM2
   clear KA hS' hI2 hL2 hG3 hM2 hb hM hG2 hd hc hp HS HIn HLn HM HG b2 hsd hcan
   go_wp2_with fail
   refine (HA.out _ (up_alloc (Below.refl _ _) _)).mono ?_
   rintro e w3 ⟨G',rfl,hS3,hb3⟩
   have HS3:=Lib.hid (HS2.out _ _ hS3)
   clear hS3 HA
   go_wp2
   go_roundw
   case rel =>
    refine ⟨k+1,G',_,_,_,by omega,rfl,by go_num,HS3,HIn2,HL2,HM2,HG3,?_⟩
    exact (up_alloc HB.out _).trans (hb3.mono hsz)
   case measure=>simp [intOf];omega
  ·obtain rfl:k=n:=by omega
   have hM:=HM.out
   have hG2:=HG.out
   rw [List.drop_of_length_le (by rw [HN.out];omega)] at hM hG2
   obtain ⟨rfl,rfl⟩:c=1∧r=1:=by
    rw [allM] at hM
    simp only [Prod.mk.injEq] at hM
    exact ⟨hM.1,hM.2.1⟩
   rw [goL] at hG2
   subst hG2
   obtain ⟨A,L,bk,R,S,hG,hL,hinj,hD,hP⟩:=HS.out
   have hlen:L.length=1:=by have:=hG.len;omega
   have e0:=hL 0 (by omega)
   have KAt:Calls Tryz.prog 121 #[.pointer (some ⟨G,0,none⟩),.int .i64 0,.int .i64 0] wr fun e w'=>e=.returned (.tuple #[.pointer (some ⟨bk 0,0,none⟩),.bool true])∧Below wr.heap.size wr w':=shAt_yes hG 0 0 (ptrD (bk 0)) (by decide) (by simpa [at1] using e0)
   have hd0:=hD.dk (bk 0) ⟨0,by omega,rfl⟩
   have hP0:=hP 0 0 (by omega) (by omega)
   simp only [Int.zero_mul,Int.add_zero,Int.toNat_zero] at hP0
   rw [hP0,pile_all HIn.out] at hd0
   have HAt:=Lib.hid KAt;have HD0:=Lib.hid hd0;have HB:=Lib.hid hb
   clear KAt hd0 hb hG hL hinj hD hP e0 hP0 HS HIn HLn HM HG b2 hM
   go_wp2_with (go_at_call 121;refine HAt.out.mono ?_;rintro e w3 ⟨rfl,hb3⟩;have HB3:=Lib.hid hb3;clear hb3)
   go_ret
   have k:=HD0.out.up HB3.out
   exact ⟨bk 0,_,rfl,k.base _ (Nat.le_trans hsz k.low) (Nat.le_trans hsz k.ltR.1),up_trans HB.out HB3.out⟩
structure Pn where
 leaf:Int
 fx:Bool
 fy:Bool
deriving DecidableEq
instance:Inhabited Pn:=⟨⟨0,false,false⟩⟩
def Pn.cells (p:Pn):List Value:=[.int .i64 p.leaf,.bool p.fx,.bool p.fy]
def pns (l:List Pn):List Value:=l.flatMap Pn.cells
theorem pns_cons (p:Pn) (l:List Pn):pns (p :: l)=p.cells++pns l:=rfl
theorem pns_append (l m:List Pn):pns (l++m)=pns l++pns m:=by simp [pns]
theorem pns_length (l:List Pn):(pns l).length=l.length*3:=by
 induction l with
 | nil=>rfl
 | cons p l ih=>rw [pns_cons,List.length_append,ih,List.length_cons];simp [Pn.cells];omega
theorem pns_at {l:List Pn} {j:Nat} {p:Pn} (h:l[j]?=some p) (i:Nat) (hi:i<3):(pns l)[j*3+i]?=p.cells[i]?:=by
 induction l generalizing j with
 | nil=>simp at h
 | cons q l ih =>
  rw [pns_cons]
  cases j with
  | zero =>
   simp only [List.getElem?_cons_zero,Option.some.injEq] at h
   subst h
   rw [List.getElem?_append_left (by simp [Pn.cells];omega)]
   simp
  | succ j =>
   rw [List.getElem?_cons_succ] at h
   rw [List.getElem?_append_right (by simp [Pn.cells];omega),←ih h]
   congr 1
   simp [Pn.cells]
   omega
theorem pns_set {l:List Pn} {j:Nat} (hj:j<l.length) (q:Pn):pns (l.set j q)=(pns l).take (j*3)++q.cells++(pns l).drop (j*3+3):=by
 have h1:l.set j q=l.take j++q :: l.drop (j+1):=List.set_eq_take_append_cons_drop .. |>.trans (by rw [if_pos hj])
 have h2:pns l=pns (l.take j)++pns (l.drop j):=by rw [←pns_append,List.take_append_drop]
 have h3:(pns (l.take j)).length=j*3:=by rw [pns_length,List.length_take];omega
 have h4:l.drop j=l[j] :: l.drop (j+1):=List.drop_eq_getElem_cons hj
 rw [h1,pns_append,pns_cons,h2,List.take_left' h3,←h3,List.drop_append,h4,pns_cons]
 simp [Pn.cells]
theorem Tryz.infoPn:(Tryz.prog.info? 132).map (fun i=>(i.zero,i.size,i.bytes))=some (some (.agg #[.int .i64 0,.bool false,.bool false]),3,16):=by kernel_rfl
def PnRow (w:World) (g:Nat) (l:List Pn):Prop:=∃ cur,w.heap[g]?=some (.cells cur 132 (0,0))∧cur.toList=pns l
theorem PnRow.lt {w:World} {g:Nat} {l:List Pn} (h:PnRow w g l):g<w.heap.size:=by
 obtain ⟨cur,h1,_⟩:=h
 exact (Array.getElem?_eq_some_iff.1 h1).1
theorem PnRow.same {w w':World} {g:Nat} {l:List Pn} (h:PnRow w g l) (e:w'.heap[g]?=w.heap[g]?):PnRow w' g l:=by
 obtain ⟨cur,h1,h2⟩:=h
 exact ⟨cur,e.trans h1,h2⟩
theorem PnRow.up {w w':World} {g:Nat} {l:List Pn} (h:PnRow w g l) (hb:Below w.heap.size w w'):PnRow w' g l:=h.same (hb.block g h.lt)
theorem PnRow.free {w:World} {g:Nat} {l:List Pn} (h:PnRow w g l) (j:Nat):w.frozen? ⟨g,j,none⟩=false:=by
 obtain ⟨cur,h1,_⟩:=h
 exact row_frozen h1 j
theorem PnRow.cells {w:World} {g:Nat} {l:List Pn} (h:PnRow w g l) {j:Nat} {p:Pn} (hp:l[j]?=some p) :
  w.cell? ⟨g,j*3,none⟩=some (.int .i64 p.leaf)∧w.cell? ⟨g,j*3+1,none⟩=some (.bool p.fx)∧w.cell? ⟨g,j*3+2,none⟩=some (.bool p.fy):=by
 obtain ⟨cur,h1,h2⟩:=h
 have k:∀ i u,i<3→p.cells[i]?=some u→w.cell? ⟨g,j*3+i,none⟩=some u:=fun i u hi hu=>by
  have e:=pns_at hp i hi
  rw [hu,←h2,Array.getElem?_toList] at e
  simp [World.cell?,h1,e]
 exact ⟨k 0 _ (by omega) rfl,k 1 _ (by omega) rfl,k 2 _ (by omega) rfl⟩
theorem PnRow.stored {w:World} {g:Nat} {l:List Pn} (h:PnRow w g l) {k:Nat} (hk:k<l.length) (q:Pn):PnRow (w.setCells g (k*3) q.cells) g (l.set k q):=by
 obtain ⟨cur,h1,h2⟩:=h
 have hl:cur.size=l.length*3:=by rw [←Array.length_toList,h2,pns_length]
 have hq:q.cells.length=3:=rfl
 obtain ⟨cur1,e1,e2⟩:=heap_setCells_list g q.cells (k*3) w cur _ h1 (by rw [hq];omega)
 refine ⟨cur1,e1,?_⟩
 rw [e2,pns_set hk,h2,hq]
theorem made_pns (n:Nat):(madeCells (Value.cells (.agg #[.int .i64 0,.bool false,.bool false])) (n*3)).toList=pns (List.replicate n default):=by
 apply List.ext_getElem?
 intro j
 by_cases hj:j<n*3
 ·have hp:(List.replicate n (default:Pn))[j / 3]?=some default:=by rw [List.getElem?_replicate,if_pos (by omega)]
  have e:=pns_at hp (j%3) (by omega)
  rw [show j / 3*3+j%3=j by omega] at e
  rw [e]
  have:j%3=0∨j%3=1∨j%3=2:=by omega
  simp only [madeCells,Array.toList_map,Array.toList_range,List.getElem?_map,List.getElem?_range hj,Option.map_some,Value.cells]
  show some ((#[Value.int .i64 0,Value.bool false,Value.bool false]:Array Value)[j%3]!)=_
  rcases this with h | h | h<;>rw [h]<;>rfl
 ·rw [List.getElem?_eq_none (by simp [madeCells];omega),List.getElem?_eq_none (by rw [pns_length,List.length_replicate];omega)]
theorem PnRow.made (w:World) (n:Nat):PnRow (w.alloc (.cells (madeCells (Value.cells (.agg #[.int .i64 0,.bool false,.bool false])) (n*3)) 132)) w.heap.size (List.replicate n default):=⟨_,World.alloc_heap_new w _,made_pns n⟩
theorem run_make_pns (n:Nat) (hn:n≤1000000) (w:World):(Instr.makeSlice 115 (.int .i64 (n:Int)) (.int .i64 (n:Int))).run Tryz.prog w=.ok (.slice (some ⟨w.heap.size,0,none⟩) n n) (w.alloc (.cells (madeCells (Value.cells (.agg #[.int .i64 0,.bool false,.bool false])) (n*3)) 132)):=by
 obtain ⟨i0,hi,hz0,hz1,hz2⟩:=info_parts Tryz.infoPn
 have:=run_make (P:=Tryz.prog) w 115 132 i0 _ Tryz.underlying115 hi hz0 .i64 .i64 (n:Int) (n:Int) (by omega) (Int.le_refl _) (by rw [hz2];omega) (by omega)
 rw [hz1,Int.toNat_natCast] at this
 exact this
def ofStep (l:List Pc) (acc:List Pn) (k:Nat):List Pn:=acc.set (l[k]?.getD default).n.toNat ⟨(k:Int),(l[k]?.getD default).fx,(l[k]?.getD default).fy⟩
def ofL (l:List Pc) (k:Nat):List Pn:=(List.range k).foldl (ofStep l) (List.replicate l.length default)
theorem ofL_succ (l:List Pc) (k:Nat):ofL l (k+1)=ofStep l (ofL l k) k:=by simp [ofL,List.range_succ]
theorem ofL_length (l:List Pc) (k:Nat):(ofL l k).length=l.length:=by
 induction k with
 | zero=>simp [ofL]
 | succ k ih=>rw [ofL_succ];unfold ofStep;rw [List.length_set,ih]
end Go.Proofs.YtbbjileignefbaaGreatDoor
namespace Go.Proofs.YtbbjileignefbaaGreatDoor
theorem turned_n (d n c r:Int) (p:Rp):(turnedM d n c r p).n=p.n:=by unfold turnedM;split<;>(try split)<;>(try split)<;>rfl
theorem shift_n (d n:Int) (p:Rp):(shiftM d n p).n=p.n:=by unfold shiftM;split<;>(try split)<;>rfl
theorem step_perm (d n:Int) (u:Bool) (c r:Int) (l:List Rp):((stepR d n u c r l).map Rp.n).Perm (l.map Rp.n):=by
 unfold stepR
 rw [List.map_map,show Rp.n ∘ shiftM d n=Rp.n from funext fun p=>shift_n d n p]
 have h1:((overM d n c r l).reverse.map Rp.n).Perm ((l.filter (movedM d n c r)).map Rp.n):=by
  refine ((List.reverse_perm _).map _).trans ?_
  unfold overM
  rw [List.map_map,show Rp.n ∘ turnedM d n c r=Rp.n from funext fun p=>turned_n d n c r p]
 have h2:((l.filter (movedM d n c r)).map Rp.n++(restM d n c r l).map Rp.n).Perm (l.map Rp.n):=by
  rw [←List.map_append]
  exact (List.filter_append_perm _ _).map _
 cases u
 ·simp only [joinU,Bool.false_eq_true,if_false,List.map_append]
  exact (h1.append_right _).trans h2
 ·simp only [joinU,if_true,List.map_append]
  exact (List.perm_append_comm.trans (h1.append_right _)).trans h2
theorem go_perm:∀ (ls:List Sp) (c r:Int) (l:List Rp),((goL c r l ls).map Rp.n).Perm (l.map Rp.n)
 | [],_,_,_=>List.Perm.refl _
 | p :: ls,c,r,l=>(go_perm ls _ _ _).trans (step_perm _ _ _ _ _ _)
theorem init_nums (c r:Int):(initL c r).map Rp.n=(List.range (c*r).toNat).map (fun k:Nat=>(k:Int)):=by
 unfold initL
 rw [List.map_map]
 rfl
def pcL (s:Sc):List Pc:=(foldL s).map toPc
def panL (s:Sc):List Pn:=ofL (pcL s) (pcL s).length
theorem pcL_perm (s:Sc):((pcL s).map Pc.n).Perm ((List.range (s.c*s.r).toNat).map (fun k:Nat=>(k:Int))):=by
 unfold pcL
 rw [List.map_map,show Pc.n ∘ toPc=Rp.n from rfl,←init_nums]
 exact go_perm _ _ _ _
theorem pcL_length (s:Sc):(pcL s).length=(s.c*s.r).toNat:=by
 have:=(pcL_perm s).length_eq
 simpa using this
theorem panL_length (s:Sc):(panL s).length=(s.c*s.r).toNat:=by unfold panL;rw [ofL_length,pcL_length]
theorem pcL_num (s:Sc) (k:Nat) (hk:k<(pcL s).length):∃ j:Nat,j<(pcL s).length∧((pcL s)[k]'hk).n=(j:Int):=by
 have h:((pcL s)[k]'hk).n∈(pcL s).map Pc.n:=List.mem_map.2 ⟨_,List.getElem_mem _,rfl⟩
 rw [(pcL_perm s).mem_iff] at h
 obtain ⟨j,hj,e⟩:=List.mem_map.1 h
 exact ⟨j,by rw [pcL_length];exact List.mem_range.1 hj,e.symm⟩
theorem pcL_leaf (s:Sc) (j:Nat) (hj:j<(pcL s).length):∃ (k:Nat) (hk:k<(pcL s).length),((pcL s)[k]'hk).n=(j:Int):=by
 have h:(j:Int)∈(List.range (s.c*s.r).toNat).map (fun k:Nat=>(k:Int)):=List.mem_map.2 ⟨j,List.mem_range.2 (by rw [←pcL_length];exact hj),rfl⟩
 rw [← (pcL_perm s).mem_iff] at h
 obtain ⟨p,hp,e⟩:=List.mem_map.1 h
 obtain ⟨k,hk,e2⟩:=List.mem_iff_getElem.1 hp
 exact ⟨k,hk,by rw [e2];exact e⟩
theorem pcL_nodup (s:Sc) {i k:Nat} (hi:i<(pcL s).length) (hk:k<(pcL s).length) (h:((pcL s)[i]'hi).n=((pcL s)[k]'hk).n):i=k:=by
 have hn:((pcL s).map Pc.n).Nodup:=by
  rw [(pcL_perm s).nodup_iff]
  refine List.Pairwise.map _ (S:=fun a b=>a≠b) (fun a b h=>?_) (List.nodup_range (n:=(s.c*s.r).toNat))
  omega
 rw [List.Nodup,List.pairwise_iff_getElem] at hn
 by_cases e:i=k
 ·exact e
 ·exfalso
  rcases Nat.lt_or_gt_of_ne e with h1 | h1
  ·refine hn i k (by simpa using hi) (by simpa using hk) h1 ?_
   simpa using h
  ·refine hn k i (by simpa using hk) (by simpa using hi) h1 ?_
   simpa using h.symm
theorem ofL_at (l:List Pc) (hd:∀ i k (hi:i<l.length) (hk:k<l.length),l[i].n=l[k].n→i=k) (hb:∀ k (hk:k<l.length),∃ j:Nat,j<l.length∧l[k].n=(j:Int)) (k:Nat) (hk:k<l.length) (j:Nat) (hj:l[k].n=(j:Int)) :
  ∀ n,k<n→n≤l.length→(ofL l n)[j]?=some ⟨(k:Int),l[k].fx,l[k].fy⟩
 | 0,h,_=>by omega
 | n+1,h,h1=>by
  rw [ofL_succ]
  unfold ofStep
  have hn:n<l.length:=by omega
  rw [List.getElem?_eq_getElem hn]
  simp only [Option.getD_some]
  obtain ⟨j',hj',ej⟩:=hb n hn
  have hjl:j<l.length:=by
   obtain ⟨j2,h2,e2⟩:=hb k hk
   omega
  by_cases e:k=n
  ·subst e
   have:(l[k].n).toNat=j:=by omega
   rw [this,List.getElem?_set_self (by rw [ofL_length];exact hjl)]
  ·have:(l[n].n).toNat≠j:=by
    intro e2
    exact e (hd k n hk hn (by omega))
   rw [List.getElem?_set_ne this]
   exact ofL_at l hd hb k hk j hj n (by omega) (by omega)
theorem panL_at (s:Sc) (j:Nat) (hj:j<(pcL s).length):∃ (k:Nat) (hk:k<(pcL s).length),((pcL s)[k]'hk).n=(j:Int)∧(panL s)[j]?=some ⟨(k:Int),((pcL s)[k]'hk).fx,((pcL s)[k]'hk).fy⟩:=by
 obtain ⟨k,hk,e⟩:=pcL_leaf s j hj
 exact ⟨k,hk,e,ofL_at _ (fun i k hi hk h=>pcL_nodup s hi hk h) (fun k hk=>pcL_num s k hk) k hk j e _ hk (Nat.le_refl _)⟩
end Go.Proofs.YtbbjileignefbaaGreatDoor
namespace Go.Proofs.YtbbjileignefbaaGreatDoor
open Go.RowKit Go.Shelf
theorem pcAll_any (p:Option Addr) (w:World) :
  Calls Tryz.prog 110 #[.pointer p] w fun e w'=>e=.returned (.func (.func 122) #[] #[.pointer (some ⟨w.heap.size,0,none⟩)])∧w'=w.alloc (.cells #[.pointer p] 138):=by
 go_enter Tryz.func110,Tryz.ntmps110
 go_wp2
 go_ret
 exact ⟨rfl,rfl⟩
def KeepP (W W':World):Prop:=W.heap.size≤W'.heap.size∧∀ (b:Nat) (cur:Array Value) (fr:Nat×Nat),8≤cur.size→W.heap[b]?=some (.cells cur 141 fr)→W'.heap[b]?=some (.cells cur 141 fr)
theorem KeepP.trans {A B C:World} (h:KeepP A B) (k:KeepP B C):KeepP A C:=⟨Nat.le_trans h.1 k.1,fun b cur fr hn hc=>k.2 b cur fr hn (h.2 b cur fr hn hc)⟩
theorem keepP_below {W W':World} (h:Below W.heap.size W W'):KeepP W W':=⟨h.size,fun b cur fr _ hc=>(h.block b (Array.getElem?_eq_some_iff.1 hc).1).trans hc⟩
theorem keepP_put (W:World) (l:Nat) (o o':Obj) (hl:W.heap[l]?=some o) (hc:o.isCells=false):KeepP W (W.putObj l o') :=
 ⟨by simp,fun b cur fr _ hb=>by
  have hne:b≠l:=fun e=>by rw [e,hl] at hb;cases hb;cases hc
  exact ((grownBy_putObj' W l o').block b (Array.getElem?_eq_some_iff.1 hb).1 (fun e=>hne (by injection e))).trans hb⟩
def encQ (x:Int×Pc):Array Value:=#[.int .i64 x.1,x.2.val]
def CopyP (W:World) (D:Nat) (l:List Pc):Prop:=∃ cur fr,W.heap[D]?=some (.cells cur 141 fr)∧l.length*4≤cur.size∧PcsAt W D l
theorem CopyP.keep {W W':World} {D:Nat} {l:List Pc} (h:CopyP W D l) (hk:KeepP W W') (hl:2≤l.length):CopyP W' D l:=by
 obtain ⟨cur,fr,hc,hs,ht⟩:=h
 have e:=hk.2 D cur fr (by omega) hc
 exact ⟨cur,fr,e,hs,fun j u hu=>(World.cell?_of_block (a:=⟨D,j,none⟩) (e.trans hc.symm)).trans (ht j u hu)⟩
theorem CopyP.up {W W':World} {D:Nat} {l:List Pc} (h:CopyP W D l) (hb:Below W.heap.size W W'):CopyP W' D l:=by
 obtain ⟨cur,fr,hc,hs,ht⟩:=h
 exact ⟨cur,fr,(hb.block D (Array.getElem?_eq_some_iff.1 hc).1).trans hc,hs,ht.up hb⟩
set_option maxRecDepth 100000 in
set_option maxHeartbeats 4000000 in
theorem pcAll_in (n:Nat) (l0 B:Nat) (base D R:Nat) (l:List Pc) (hl0:0<l.length) (hle:l.length≤1000000) (J Jx:Nat→World→Prop)
  (hal:∀ k W W',J k W→W.grownBy W' none→J k W')
  (hY:∀ (k:Nat) x W,l[k]?=some x→J k W→YieldAt Fence.wide (n-1) Tryz.prog l0 (encQ ((k:Int),x)) W fun e W' =>
   (e=.returned (.bool true)∧J (k+1) W'∧KeepP W W')∨(e=.returned (.bool false)∧Jx (k+1) W'))
  (W:World) (hB:W.cell? ⟨B,0,none⟩=some (.pointer (some ⟨D,0,none⟩))) (hG:Dp W base D R l) (h0:J 0 W) :
  CallsIn Fence.wide n Tryz.prog 122 #[.func (.yield l0) #[] #[],.pointer (some ⟨B,0,none⟩)] W fun e W'=>(∃ v,e=.returned v) ∧
   (J l.length W'∨(∃ k,k<l.length∧Jx (k+1) W')):=by
 refine callsIn_of_wp Tryz.func122 rfl trivial ?_ rfl
 simp only [Tryz.ntmps122,List.size_toArray,List.length_cons,List.length_nil,Nat.reduceAdd,Nat.reduceSub,Array.replicate_succ,Array.replicate_zero,List.push_toArray,List.append_toArray,List.nil_append,List.cons_append]
 have HC:=Lib.hid (pcList_any hG hl0 hle)
 clear hG
 gi_wp2
 refine ⟨trivial,fun h=>by simp [Fence.wide] at h,(callsIn_wide.2 HC.out).mono ?_⟩
 clear HC
 rintro e w1 ⟨g,cap,rfl,hrow,hbW⟩
 have hJ1:J 0 w1:=hal 0 W w1 h0 ⟨hbW.os,hbW.tape,hbW.output,hbW.size,fun k hk _=>hbW.block k hk⟩
 have hcopy:CopyP w1 g l:=by
  obtain ⟨cur,h2,h3,h4,h5,_⟩:=hrow.block
  exact ⟨cur,(0,0),h2,by omega,hrow.at⟩
 clear hrow hbW h0 hB
 obtain ⟨m,hm⟩:∃ m,l.length=m:=⟨_,rfl⟩
 have HM:=Lib.hid hm
 rw [hm] at hle hl0
 rw [hm]
 clear hm
 have HY:=Lib.hid hY;have HJ:=Lib.hid hJ1;have HCo:=Lib.hid hcopy;have HL:=Lib.hid hal
 clear hY hJ1 hcopy hal
 gi_wp2
 gi_loopw [8] (fun i wr=>∃ k:Nat,k≤m∧i=.int .i64 (k:Int)∧J k wr∧(k<m→CopyP wr g l)) (fun i _=>m-(intOf i).toNat)
 case atStart=>exact ⟨0,by omega,by go_num,HJ.out,fun _=>HCo.out⟩
 case round =>
  obtain ⟨k,hk,rfl,hJs,hC⟩:=hrel
  by_cases hlt:k<m
  ·have hC:=hC hlt
   obtain ⟨x,hx⟩:∃ x,l[k]?=some x:=⟨l[k]'(by rw [HM.out];exact hlt),List.getElem?_eq_getElem _⟩
   have hat:PcsAt wr g l:=by obtain ⟨_,_,_,_,h⟩:=hC;exact h
   obtain ⟨d0,d1,d2,d3⟩:=hat.cells hx
   have z0:(0:Int)≤(k:Int):=by omega
   have z1:(k:Int)<(m:Int):=by omega
   have hup:Below wr.heap.size wr (wr.alloc (.cells #[.int .i64 x.n,.int .i64 0,.bool x.fx,.bool x.fy] 141)):=up_alloc (Below.refl _ _) _
   have hJs2:=HL.out _ _ _ hJs (World.grownBy_alloc wr (.cells #[.int .i64 x.n,.int .i64 0,.bool x.fx,.bool x.fy] 141) none)
   obtain ⟨fn,tmps,assign,body,hy,hR⟩:=HY.out k x _ hx hJs2
   unfold encQ Pc.val at hy
   dsimp only at hy
   have HC2:=Lib.hid (hC.up hup)
   clear hJs hJs2 hC hx HY HJ HCo hat hup
   gi_wp2
   refine ⟨fun h=>by simp [Fence.wide] at h,hR.mono ?_⟩
   rintro e W3 (⟨rfl,hJ3,hk3⟩ | ⟨rfl,hJx3⟩)
   ·gi_wp2
    go_roundw
    case rel=>exact ⟨k+1,by omega,by go_num,hJ3,fun h=>HC2.out.keep hk3 (by rw [HM.out];omega)⟩
    case measure=>simp [intOf];omega
   ·gi_wp2
    refine bodyPost_ret (results_none rfl _ _ _) rfl ?_
    exact ⟨⟨_,rfl⟩,.inr ⟨k,by rw [HM.out];exact hlt,hJx3⟩⟩
  ·have hk2:m≤k:=by omega
   have e:k=m:=by omega
   subst e
   have HJ2:=Lib.hid hJs
   clear hJs hC
   gi_wp2
   go_end0
   exact ⟨⟨_,rfl⟩,.inl (by rw [HM.out];exact HJ2.out)⟩
def encJ (l:List Pc) (k:Ix l.length):Array Value:=encQ ((k.1:Int),l[k.1]'k.2)
theorem pcAll_stops (n:Nat) (B:Nat) (base D R:Nat) (l:List Pc) (hl0:0<l.length) (hle:l.length≤1000000) (w:World) (hB:w.cell? ⟨B,0,none⟩=some (.pointer (some ⟨D,0,none⟩))) (hG:Dp w base D R l) :
  SeqStopsK Fence.wide n Tryz.prog 122 #[.pointer (some ⟨B,0,none⟩)] (encJ l) KeepP (fun ys=>ys=ixs l.length l.length) (fun pre=>∃ k,k<l.length∧pre=ixs l.length (k+1)) l.length w:=fun l0 J Jx W hW hJ _ hY h0 =>
 (pcAll_in n l0 B base D R l hl0 hle (fun k=>J (ixs l.length k)) (fun k=>Jx (ixs l.length k)) (fun k W W' h hg=>hJ _ W W' none h hg (fun r e=>by cases e))
  (fun k x W hx h=>by
   obtain ⟨hk,rfl⟩:=List.getElem?_eq_some_iff.1 hx
   have:=hY (ixs l.length k) ⟨k,hk⟩ W h (by rw [ixs_length k (by omega)];exact hk)
   rwa [←ixs_succ hk] at this)
  W (bl_cell hW hB) (hG.up hW) h0).mono
  fun e W' ⟨h1,h2⟩=>⟨h1,h2.elim (fun h=>.inl ⟨_,rfl,h⟩) (fun ⟨k,hk,h⟩=>.inr ⟨_,⟨k,hk,rfl⟩,h⟩)⟩
theorem pcNil_stops (n:Nat) (B:Nat) (w:World) (hB:w.cell? ⟨B,0,none⟩=some (.pointer none)) :
  SeqStopsK Fence.wide n Tryz.prog 122 #[.pointer (some ⟨B,0,none⟩)] encQ KeepP (fun ys=>ys=[]) (fun pre=>False) 0 w:=fun l0 J Jx W hW hJ _ hY h0=>by
 have hB2:=bl_cell hW hB
 have K:CallsIn Fence.wide n Tryz.prog 122 #[.func (.yield l0) #[] #[],.pointer (some ⟨B,0,none⟩)] W fun e W'=>(∃ v,e=.returned v)∧W'=W:=by
  have HN:Calls Tryz.prog 123 #[.pointer none] W fun e w'=>e=.returned (.slice none 0 0)∧w'=W:=by
   go_enter Tryz.func123,Tryz.ntmps123
   go_wp2
   go_ret
   exact ⟨rfl,rfl⟩
  have HC:=Lib.hid HN
  clear HN hY h0 hJ
  refine callsIn_of_wp Tryz.func122 rfl trivial ?_ rfl
  simp only [Tryz.ntmps122,List.size_toArray,List.length_cons,List.length_nil,Nat.reduceAdd,Nat.reduceSub,Array.replicate_succ,Array.replicate_zero,List.push_toArray,List.append_toArray,List.nil_append,List.cons_append]
  gi_wp2
  refine ⟨trivial,fun h=>by simp [Fence.wide] at h,(callsIn_wide.2 HC.out).mono ?_⟩
  clear HC
  rintro e w1 ⟨rfl,rfl⟩
  gi_wp2
  gi_loopw [8] (fun i wr=>i=.int .i64 0∧wr=w1) (fun i _=>0)
  case atStart=>exact ⟨by go_num,rfl⟩
  case round =>
   obtain ⟨rfl,hwr⟩:=hrel
   obtain rfl:w1=wr:=hwr.symm
   gi_wp2
   go_end0
   exact ⟨⟨_,rfl⟩,rfl⟩
 refine K.mono ?_
 rintro e W' ⟨h,rfl⟩
 exact ⟨h,.inl ⟨[],rfl,h0⟩⟩
attribute [local go_sem] Oper.semAt_some
theorem folded_no (s:Sc) (a:Option Addr) (cap:Nat) (w:World) (hc:s.c≤9223372036854775807) (hr:s.r≤9223372036854775807) (hl:s.l.length≤1000000) (hI:InL w a s.l) (hn:rightM s=false) :
  Calls Tryz.prog 108 #[.agg #[.int .i64 s.c,.int .i64 s.r,.slice a s.l.length cap]] w fun e w'=>e=.returned (.pointer none)∧Below w.heap.size w w':=by
 have KR:=fun w1 (h:Below w.heap.size w w1)=>schRight_any s a cap w1 hc hr hl (hI.up h)
 rw [hn] at KR
 have HR:=Lib.hid KR
 have HB0:=Lib.hid (up_alloc (Below.refl _ w) (.cells #[.int .i64 s.c,.int .i64 s.r,.slice a s.l.length cap] 26))
 generalize s.l.length=n at *
 clear KR hI hn
 go_enter Tryz.func108,Tryz.ntmps108
 go_wp2_with fail
 refine (HR.out _ HB0.out).mono ?_
 rintro e w1 ⟨rfl,hb⟩
 have B1:=Lib.hid (up_trans HB0.out hb)
 clear hb
 go_wp2
 go_ret
 exact ⟨rfl,B1.out⟩
theorem unfOf_no (s:Sc) (a:Option Addr) (cap:Nat) (w:World) (hc:s.c≤9223372036854775807) (hr:s.r≤9223372036854775807) (hl:s.l.length≤1000000) (hI:InL w a s.l) (hn:rightM s=false) :
  Calls Tryz.prog 97 #[.agg #[.int .i64 s.c,.int .i64 s.r,.slice a s.l.length cap]] w fun e w'=>e=.returned (.slice none 0 0)∧Below w.heap.size w w':=by
 have KF:=fun w1 (h:Below w.heap.size w w1)=>folded_no s a cap w1 hc hr hl (hI.up h) hn
 have HF:=Lib.hid KF
 have HB0:=Lib.hid (up_alloc (Below.refl _ w) (.cells #[.int .i64 s.c,.int .i64 s.r,.slice a s.l.length cap] 26))
 generalize s.l.length=n at *
 clear KF hI hn
 go_enter Tryz.func97,Tryz.ntmps97
 go_wp2_with fail
 refine (HF.out _ HB0.out).mono ?_
 rintro e w1 ⟨rfl,hb⟩
 have B1:=Lib.hid (up_trans HB0.out hb)
 clear hb
 go_wp2
 go_ret
 exact ⟨rfl,B1.out⟩
def setsP (l:List Pc) (pre:List (Ix l.length)):List Pn:=pre.foldl (fun acc k=>ofStep l acc k.1) (List.replicate l.length default)
theorem setsP_snoc (l:List Pc) (pre:List (Ix l.length)) (k:Ix l.length):setsP l (pre++[k])=ofStep l (setsP l pre) k.1:=by simp [setsP]
theorem setsP_length (l:List Pc) (pre:List (Ix l.length)):(setsP l pre).length=l.length:=by
 unfold setsP
 generalize hr:List.replicate l.length (default:Pn)=acc
 have ha:acc.length=l.length:=by rw [←hr];simp
 clear hr
 induction pre generalizing acc with
 | nil=>exact ha
 | cons k pre ih=>exact ih _ (by unfold ofStep;rw [List.length_set];exact ha)
theorem setsP_all (l:List Pc):∀ n,n≤l.length→setsP l (ixs l.length n)=ofL l n
 | 0,_=>rfl
 | n+1,h=>by rw [ixs_succ (by omega),setsP_snoc,setsP_all l n (by omega),ofL_succ]
theorem pnRow_own {β:Type} (g:Nat) (f:β→List Pn):Own (fun s W=>PnRow W g (f s)):=by
 rintro s X Y row h hg hr
 obtain ⟨cur,h1,h2⟩:=h
 refine ⟨cur,(hg.block g (Array.getElem?_eq_some_iff.1 h1).1 (fun e=>?_)).trans h1,h2⟩
 obtain ⟨o,ho,hc⟩:=hr g e.symm
 rw [h1] at ho
 cases ho
 cases hc
theorem keepP_set (W:World) (a:Addr) (v:Value) (hB:∀ cur fr,W.heap[a.block]?=some (.cells cur 141 fr)→cur.size<8):KeepP W (W.setCell a v) :=
 ⟨by simp [World.setCell],fun b cur fr hn hc=>by
  by_cases e:b=a.block
  ·subst e
   have:=hB cur fr hc
   omega
  ·exact (Below.heap_setCell _ _ _ _ e).trans hc⟩
theorem keepP_setCells (W:World) (g o:Nat) (vs:List Value) (hB:∀ cur fr,W.heap[g]?=some (.cells cur 141 fr)→cur.size<8):KeepP W (W.setCells g o vs) :=
 ⟨(setCells_but g g o vs W).size,fun b cur fr hn hc=>by
  by_cases e:b=g
  ·subst e
   have:=hB cur fr hc
   omega
  ·exact (World.heap_setCells_other _ _ _ _ (Array.getElem?_eq_some_iff.1 hc).1 e).trans hc⟩
set_option maxRecDepth 100000 in
set_option maxHeartbeats 4000000 in
theorem unfOf_core (c r:Int) (a:Option Addr) (n cap:Nat) (w:World) (l:List Pc) (hl0:0<l.length) (hl64:l.length≤4096) (hn:∀ k:Ix l.length,∃ j:Nat,j<l.length∧(l[k.1]'k.2).n=(j:Int))
  (KF:∀ w1,Below w.heap.size w w1→Calls Tryz.prog 108 #[.agg #[.int .i64 c,.int .i64 r,.slice a n cap]] w1 fun e w'=>∃ D R,e=.returned (.pointer (some ⟨D,0,none⟩))∧Dp w' w1.heap.size D R l∧Below w1.heap.size w1 w') :
  Calls Tryz.prog 97 #[.agg #[.int .i64 c,.int .i64 r,.slice a n cap]] w fun e w'=>∃ g,e=.returned (.slice (some ⟨g,0,none⟩) l.length l.length)∧PnRow w' g (ofL l l.length)∧w.heap.size≤g∧Below w.heap.size w w':=by
 have HF:=Lib.hid KF;have HN:=Lib.hid hn
 have HB0:=Lib.hid (up_alloc (Below.refl _ w) (.cells #[.int .i64 c,.int .i64 r,.slice a n cap] 26))
 have mk:=run_make_pns l.length (by omega)
 clear KF hn
 refine (callsIn_wide (n:=3)).1 ?_
 refine callsIn_of_wp_marks Tryz.func97 rfl trivial ?_ rfl
 simp only [Tryz.ntmps97,List.size_toArray,List.length_cons,List.length_nil,Nat.reduceAdd,Nat.reduceSub,Array.replicate_succ,Array.replicate_zero,List.push_toArray,List.append_toArray,List.nil_append,List.cons_append]
 gi_wp2_with (first
  | (refine ⟨trivial,?_⟩;gi_at_call 108;refine (callsIn_wide.2 (HF.out _ HB0.out)).mono ?_;rintro e w1 ⟨D,R,rfl,hD,hb1⟩;have HD:=Lib.hid hD;have HB1:=Lib.hid (up_trans HB0.out hb1);clear hD hb1)
  | (refine ⟨trivial,?_⟩;gi_at_call 109;refine (callsIn_wide.2 (pcLen_any HD.out)).mono ?_;rintro e w2 ⟨rfl,rfl⟩)
  | (refine ⟨trivial,?_⟩;gi_at_call 110;refine (callsIn_wide.2 (pcAll_any _ _)).mono ?_;rintro e w4 ⟨rfl,rfl⟩))
 obtain ⟨W0,hW0⟩:∃ W0,(((w2.alloc (.cells (madeCells #[.int .i64 0,.bool false,.bool false] (l.length*3)) 132)).alloc (.cells #[.slice (some ⟨w2.heap.size,0,none⟩) l.length l.length] 115)).alloc (.cells #[.pointer (some ⟨D,0,none⟩)] 138))=W0:=⟨_,rfl⟩
 have up2:Below w2.heap.size w2 W0:=by rw [←hW0];exact up_alloc (up_alloc (up_alloc (Below.refl _ _) _) _) _
 have upw:Below w.heap.size w W0:=up_trans HB1.out up2
 have y4:Boxed W0 (w2.heap.size+1) 115 (.slice (some ⟨w2.heap.size,0,none⟩) l.length l.length):=by
  rw [←hW0]
  have:=(Boxed.new (w2.alloc (.cells (madeCells #[.int .i64 0,.bool false,.bool false] (l.length*3)) 132)) 115 (.slice (some ⟨w2.heap.size,0,none⟩) l.length l.length)).alloc (.cells #[.pointer (some ⟨D,0,none⟩)] 138)
  simpa only [World.size_alloc] using this
 have yR:PnRow W0 w2.heap.size (setsP l []):=by
  rw [←hW0]
  exact ((PnRow.made w2 l.length).up (up_alloc (Below.refl _ _) _)).up (up_alloc (Below.refl _ _) _)
 have yG:W0.cell? ⟨w2.heap.size+1+1,0,none⟩=some (.pointer (some ⟨D,0,none⟩)):=by rw [←hW0];simp [go_sem]
 have hD:=HD.out.up up2
 have hsz:W0.heap.size=w2.heap.size+3:=by rw [←hW0];simp
 have hsw:=HB1.out.size
 rw [hW0]
 clear hW0 HB1 HD HF up2 mk
 refine wpIn_rangeFunc_ownH rfl (by decide) (gf:=122) (lb:=#[.pointer (some ⟨w2.heap.size+1+1,0,none⟩)]) rfl trivial (enters_of Tryz.func122 (by kernel_rfl) rfl)
  (pcAll_stops 2 (w2.heap.size+1+1) _ D R l hl0 (by omega) W0 yG hD) KeepP.trans (fun W l o o' _ h1 h2 _=>keepP_put W l o o' h1 h2) (Below.refl _ _) (fun _=>rfl)
  (fun pre W=>(Boxed W (w2.heap.size+1) 115 (.slice (some ⟨w2.heap.size,0,none⟩) l.length l.length)∧PnRow W w2.heap.size (setsP l pre))∧Below w.heap.size w W)
  (fun c pre W=>False)
  (OwnFrom.and (OwnFrom.and (Own.from (boxed_own _ _ _) _) (Own.from (pnRow_own _ (fun pre=>setsP l pre)) _)) (ownFrom_below (Nat.le_refl _) (by omega)))
  (fun c=>ownFrom_pure _ (fun _=>False))
  ⟨⟨y4,yR⟩,upw⟩
  (fun k a' W=>∃ Bq,w2.heap.size+1<Bq∧BoxN W Bq 141 #[.int .i64 (l[k.1]'k.2).n,.int .i64 0,.bool (l[k.1]'k.2).fx,.bool (l[k.1]'k.2).fy] ∧
   a'={ tmps:=#[.agg #[.int .i64 c,.int .i64 r,.slice a n cap],.pointer (some ⟨w.heap.size,0,none⟩),.slice none 0 0,.pointer (some ⟨D,0,none⟩),.pointer (some ⟨w2.heap.size+1,0,none⟩),.int .i64 (k.1:Int),.pointer (some ⟨Bq,0,none⟩),.agg #[.int .i64 c,.int .i64 r,.slice a n cap],.pointer (some ⟨D,0,none⟩),.pointer (some ⟨D,0,none⟩),.bool false,.pointer (some ⟨D,0,none⟩),.int .i64 (l.length:Int),.slice (some ⟨w2.heap.size,0,none⟩) l.length l.length,.pointer (some ⟨D,0,none⟩),.func (.func 122) #[] #[.pointer (some ⟨w2.heap.size+1+1,0,none⟩)],.int .i64 (k.1:Int),.agg #[.int .i64 (l[k.1]'k.2).n,.int .i64 0,.bool (l[k.1]'k.2).fx,.bool (l[k.1]'k.2).fy],undef,undef,undef,undef,undef,undef,undef,undef,undef,undef],defers:=[] })
  (fun k a' _ X Y row hs hg hr=>by obtain ⟨Bx,h1,h2,h4⟩:=hs;exact ⟨Bx,h1,boxN_own Bx _ _ () X Y row h2 hg (fun r e=>(hr r e).2),h4⟩)
  ?assign ?body ?done ?stop
 case assign =>
  rintro l0 pre k W K ⟨⟨k4,kR⟩,hB1⟩ hK
  have hsW:=hB1.size
  unfold encJ encQ Pc.val
  dsimp only
  obtain ⟨p,hp⟩:∃ p,l[k.1]'k.2=p:=⟨_,rfl⟩
  rw [hp] at hK ⊢
  gi_wp2
  have h4:=(Array.getElem?_eq_some_iff.1 k4).1
  exact hK _ _ ((KeepsOthers.alloc _ _).from _) (keepP_below (up_alloc (Below.refl _ _) _)) ⟨⟨k4.alloc _,kR.up (up_alloc (Below.refl _ _) _)⟩,hB1.alloc hsW _⟩ ⟨W.heap.size,h4,World.alloc_heap_new W _,rfl⟩
 case body =>
  rintro l0 pre k a' W hl _ ⟨⟨k4,kR⟩,hB1⟩ ⟨Bq,hBq,kQ,rfl⟩ hlen
  obtain ⟨p,hp⟩:∃ p,l[k.1]'k.2=p:=⟨_,rfl⟩
  obtain ⟨j,hj,hpj⟩:=HN.out k
  rw [hp] at kQ hpj ⊢
  have q0:=kQ.cell 0 rfl;have q1:=kQ.cell 1 rfl;have q2:=kQ.cell 2 rfl;have q3:=kQ.cell 3 rfl
  have c4:=k4.cell
  obtain ⟨Z,hZ⟩:∃ Z,W.setCell ⟨Bq,1,none⟩ (.int .i64 (k.1:Int))=Z:=⟨_,rfl⟩
  have zR:PnRow Z w2.heap.size (setsP l pre):=by rw [←hZ];exact kR.same (Below.heap_setCell _ _ _ _ (by simp only;omega))
  have z4:Boxed Z (w2.heap.size+1) 115 (.slice (some ⟨w2.heap.size,0,none⟩) l.length l.length):=by rw [←hZ];exact (Below.heap_setCell _ _ _ _ (by simp only;omega)).trans k4
  have zQ:BoxN Z Bq 141 #[.int .i64 (j:Int),.int .i64 (k.1:Int),.bool p.fx,.bool p.fy]:=by
   rw [←hZ]
   rw [hpj] at kQ
   unfold BoxN at kQ ⊢
   simp only [World.setCell,Array.getElem?_modify,if_true,kQ,Option.map_some]
   rfl
  have y0:=zQ.cell 0 rfl;have y1:=zQ.cell 1 rfl;have y2:=zQ.cell 2 rfl;have y3:=zQ.cell 3 rfl;have y4:=z4.cell
  have q1f:=kQ.free 1
  have hjs:j<(setsP l pre).length:=by rw [setsP_length];exact hj
  obtain ⟨f0,f1,f2⟩:=zR.cells (List.getElem?_eq_getElem hjs)
  have g0:=zR.free (j*3);have g1:=zR.free (j*3+1);have g2:=zR.free (j*3+2)
  have kp1:KeepP W Z:=by
   rw [←hZ]
   refine keepP_set _ _ _ (fun cur fr e=>?_)
   rw [show W.heap[Bq]?=_ from kQ] at e
   cases e
   show 4<8
   omega
  have ko1:KeepsOthers W Z:=by rw [←hZ];exact KeepsOthers.setCell _ _ _
  have bl1:Below w.heap.size w Z:=by rw [←hZ];exact hB1.setCell (by simp only;omega) _
  have zR2:=zR.stored hjs ⟨(k.1:Int),p.fx,p.fy⟩
  have z42:Boxed (Z.setCells w2.heap.size (j*3) (Pn.cells ⟨(k.1:Int),p.fx,p.fy⟩)) (w2.heap.size+1) 115 (.slice (some ⟨w2.heap.size,0,none⟩) l.length l.length):=(World.heap_setCells_other _ _ _ _ (Array.getElem?_eq_some_iff.1 z4).1 (by omega)).trans z4
  have kp2:KeepP Z (Z.setCells w2.heap.size (j*3) (Pn.cells ⟨(k.1:Int),p.fx,p.fy⟩)):=by
   obtain ⟨cur,e1,_⟩:=zR
   refine keepP_setCells _ _ _ _ (fun cur fr e=>?_)
   rw [e1] at e
   cases e
  have KP:=Lib.hid (kp1.trans kp2);have KO:=Lib.hid ko1;have BL:=Lib.hid bl1;have ZR:=Lib.hid zR2;have Z4:=Lib.hid z42
  clear kp1 kp2 ko1 bl1 zR2 z42
  gi_wp2
  refine ⟨(((KO.out.trans (KeepsOthers.setCell _ _ _)).trans (KeepsOthers.setCell _ _ _)).trans (KeepsOthers.setCell _ _ _)).from _,KP.out,⟨Z4.out,?_⟩,((BL.out.setCell (by simp only;omega) _).setCell (by simp only;omega) _).setCell (by simp only;omega) _⟩
  rw [setsP_snoc]
  unfold ofStep
  rw [List.getElem?_eq_getElem k.2,hp]
  simp only [Option.getD_some,hpj,Int.toNat_natCast]
  exact ZR.out
 case done =>
  rintro E ys W hE rfl ⟨⟨k4,kR⟩,hB1⟩ hK
  have c4:=k4.cell
  rw [setsP_all l _ (Nat.le_refl _)] at kR
  gi_wp2
  refine ⟨by simp,.inl ⟨_,_,rfl,run_takeDeferred hK,?_⟩⟩
  exact ⟨_,results_tmp rfl _ _ _,w2.heap.size,rfl,pnRow_own _ (fun _:Unit=>_) () W _ _ kR (grownBy_putObj' W E (.deferred none)) (fun r e=>by cases e;exact ⟨_,hK,rfl⟩),by omega,hB1.trans (belowK_b (w:=w) (Nat.le_refl _) W E _ _ (by omega) hK rfl rfl)⟩
 case stop =>
  rintro D c pre W hD hpre h hK
  exact h.elim
theorem unfOf_yes (s:Sc) (a:Option Addr) (cap:Nat) (w:World) (hI:InL w a s.l) (hr:rightM s=true) :
  Calls Tryz.prog 97 #[.agg #[.int .i64 s.c,.int .i64 s.r,.slice a s.l.length cap]] w fun e w'=>∃ g,e=.returned (.slice (some ⟨g,0,none⟩) (pcL s).length (pcL s).length)∧PnRow w' g (panL s)∧w.heap.size≤g∧Below w.heap.size w w':=by
 obtain ⟨hc,hrr,hm,hl6,hall⟩:=right_bounds hr
 have hp:1≤s.c*s.r:=Int.le_trans (by omega) (Int.mul_le_mul hc.1 hrr.1 (by omega) (by omega):1*1≤s.c*s.r)
 have hlen:=pcL_length s
 exact unfOf_core s.c s.r a s.l.length cap w (pcL s) (by omega) (by omega) (fun k=>pcL_num s k.1 k.2) (fun w1 h=>folded_yes s a cap w1 (hI.up h) hr)
end Go.Proofs.YtbbjileignefbaaGreatDoor
namespace Go.Proofs.YtbbjileignefbaaGreatDoor
open Go.RowKit
def rowI (w:World) (base:Nat) (v:Value) (l:List Int):Prop:=w.ownsRow base 3 1 v l.length (l.map (Value.int .i64))
theorem rowI.up {w w':World} {base:Nat} {v:Value} {l:List Int} (h:rowI w base v l) (hb:Below w.heap.size w w'):rowI w' base v l:=by
 refine World.ownsRow.kept h (row:=none) ⟨hb.os,hb.tape,hb.output,hb.size,fun k hk _=>hb.block k hk⟩ ?_
 rcases h.2 with ⟨rfl,_⟩ | ⟨g,cap,cur,rfl,_⟩
 ·exact .inl rfl
 ·exact .inr (by simp [Value.ownBlock])
theorem rowI_form {w:World} {base:Nat} {v:Value} {l:List Int} (h:rowI w base v l) (hl:0<l.length) :
  ∃ g cap,v=.slice (some ⟨g,0,none⟩) l.length cap∧base≤g∧g<w.heap.size∧∀ i x,l[i]?=some x→w.cell? ⟨g,i,none⟩=some (.int .i64 x):=by
 obtain ⟨g,cap,hv,hb,hlt⟩:=World.ownsRow.form h hl
 subst hv
 have hc:=World.ownsRow.cells h (g:=g) rfl
 have ad:∀ j,(⟨g,0,none⟩:Addr).add j=⟨g,j,none⟩:=fun j=>by unfold Addr.add;split<;>simp_all
 refine ⟨g,cap,rfl,hb,hlt,fun i x hx=>?_⟩
 have c0:=hc i (.int .i64 x) (by simp [hx])
 rw [ad] at c0
 exact c0
end Go.Proofs.YtbbjileignefbaaGreatDoor
namespace Go.Proofs.YtbbjileignefbaaGreatDoor
open Go.RowKit Go.Shelf
attribute [local go_sem] Oper.semAt_some
theorem Tryz.infoNum:(Tryz.prog.info? 3).map (fun i=>(i.zero,i.size,i.bytes))=some (some (.int .i64 0),1,8):=by kernel_rfl
def numsV (l:List Pc) (pre:List (Ix l.length)):List Value:=pre.map fun k=>.int .i64 (l[k.1]'k.2).n
theorem numsV_snoc (l:List Pc) (pre:List (Ix l.length)) (k:Ix l.length):numsV l (pre++[k])=numsV l pre++[.int .i64 (l[k.1]'k.2).n]:=by simp [numsV]
theorem numsV_all (l:List Pc):numsV l (ixs l.length l.length)=(l.map Pc.n).map (Value.int .i64):=by
 apply List.ext_getElem?
 intro j
 unfold numsV
 rw [List.getElem?_map,List.map_map,List.getElem?_map]
 by_cases h:j<l.length
 ·obtain ⟨h1,e⟩:=ixs_at _ (Nat.le_refl l.length) j h
  rw [e,List.getElem?_eq_getElem h]
  rfl
 ·rw [List.getElem?_eq_none (by rw [ixs_length _ (Nat.le_refl _)];omega),List.getElem?_eq_none (by omega)]
  rfl
theorem cell_a (w:World) (x:Value) (t:TypeId):∀ j u,[x][j]?=some u→(w.alloc (.cells #[x] t)).cell? ((⟨w.heap.size,0,none⟩:Addr).add j)=some u:=by
 intro j u hj
 match j,hj with
 | 0,hj=>simp at hj;subst hj;simp [Addr.add]
 | j+1,hj=>simp at hj
theorem keepP_append {W w1:World} {B base:Nat} {tmp:Obj} {v v':Value} {k m:Nat} {xs ys:List Value} (hv:Boxed W B 49 v) (hrow:W.ownsRow base 3 1 v k xs) (hown':w1.ownsRow base 3 1 v' m ys) (hgrow:(W.alloc tmp).grownBy w1 v.ownBlock) (hv1:Boxed w1 B 49 v):KeepP W (w1.setCell ⟨B,0,none⟩ v'):=by
 have h1:KeepP W (W.alloc tmp):=keepP_below (up_alloc (Below.refl _ _) _)
 have h2:KeepP (W.alloc tmp) w1:=by
  refine ⟨hgrow.size,fun b cur fr hn hb=>(hgrow.block b (Array.getElem?_eq_some_iff.1 hb).1 (fun e=>?_)).trans hb⟩
  rcases (hrow.alloc tmp).2 with ⟨rfl,_⟩ | ⟨g,cap,cur2,rfl,_,hgb,_⟩
  ·simp [Value.ownBlock] at e
  ·obtain rfl:g=b:=by simpa [Value.ownBlock] using e.symm
   rw [hgb] at hb
   cases hb
 refine (h1.trans h2).trans (keepP_set _ _ _ (fun cur fr e=>?_))
 rw [show w1.heap[B]?=_ from hv1] at e
 cases e
theorem unfOrder_no (s:Sc) (a:Option Addr) (cap:Nat) (w:World) (hc:s.c≤9223372036854775807) (hr:s.r≤9223372036854775807) (hl:s.l.length≤1000000) (hI:InL w a s.l) (hn:rightM s=false) :
  Calls Tryz.prog 98 #[.agg #[.int .i64 s.c,.int .i64 s.r,.slice a s.l.length cap]] w fun e w'=>e=.returned (.slice none 0 0)∧Below w.heap.size w w':=by
 have KF:=fun w1 (h:Below w.heap.size w w1)=>folded_no s a cap w1 hc hr hl (hI.up h) hn
 have HF:=Lib.hid KF
 generalize s.l.length=n at *
 clear KF hI hn
 have HB0:=Lib.hid (up_alloc (up_alloc (Below.refl _ w) (.cells #[.int .i64 s.c,.int .i64 s.r,.slice a n cap] 26)) (.cells #[.slice none 0 0] 49))
 refine (callsIn_wide (n:=3)).1 ?_
 refine callsIn_of_wp_marks Tryz.func98 rfl trivial ?_ rfl
 simp only [Tryz.ntmps98,List.size_toArray,List.length_cons,List.length_nil,Nat.reduceAdd,Nat.reduceSub,Array.replicate_succ,Array.replicate_zero,List.push_toArray,List.append_toArray,List.nil_append,List.cons_append]
 gi_wp2_with (first
  | (refine ⟨trivial,?_⟩;gi_at_call 108;refine (callsIn_wide.2 (HF.out _ HB0.out)).mono ?_;rintro e w1 ⟨rfl,hb1⟩;have HB1:=Lib.hid (up_trans HB0.out hb1);have HN1:=Lib.hid hb1;clear hb1)
  | (refine ⟨trivial,?_⟩;gi_at_call 110;refine (callsIn_wide.2 (pcAll_any _ _)).mono ?_;rintro e w4 ⟨rfl,rfl⟩))
 obtain ⟨W0,hW0⟩:∃ W0,w1.alloc (.cells #[.pointer none] 138)=W0:=⟨_,rfl⟩
 have upw:Below w.heap.size w W0:=by rw [←hW0];exact up_alloc HB1.out _
 have x0:Boxed W0 (w.heap.size+1) 49 (.slice none 0 0):=by
  have:=(Boxed.new (w.alloc (.cells #[.int .i64 s.c,.int .i64 s.r,.slice a n cap] 26)) 49 (.slice none 0 0))
  simp only [World.size_alloc] at this
  have h2:=HN1.out
  rw [←hW0]
  have h3:Boxed w1 (w.heap.size+1) 49 (.slice none 0 0):=(h2.block _ (by simp)).trans this
  exact h3.alloc _
 have yG:W0.cell? ⟨w1.heap.size,0,none⟩=some (.pointer none):=by rw [←hW0];simp [go_sem]
 have hsz:W0.heap.size=w1.heap.size+1:=by rw [←hW0];simp
 have hsw:=HN1.out.size
 simp only [World.size_alloc] at hsw
 rw [hW0]
 clear hW0
 refine wpIn_rangeFunc_ownH rfl (by decide) (gf:=122) (lb:=#[.pointer (some ⟨w1.heap.size,0,none⟩)]) rfl trivial (enters_of Tryz.func122 (by kernel_rfl) rfl)
  (pcNil_stops 2 w1.heap.size W0 yG) KeepP.trans (fun W l o o' _ h1 h2 _=>keepP_put W l o o' h1 h2) (Below.refl _ _) (fun _=>rfl)
  (fun pre W=>Boxed W (w.heap.size+1) 49 (.slice none 0 0)∧Below w.heap.size w W)
  (fun c pre W=>False)
  (OwnFrom.and (Own.from (boxed_own _ _ _) _) (ownFrom_below (Nat.le_refl _) (by omega)))
  (fun c=>ownFrom_pure _ (fun _=>False))
  ⟨x0,upw⟩
  (fun x a' W=>True)
  (fun x a' _ X Y row hs hg hr=>trivial)
  ?assign ?body ?done ?stop
 case assign =>
  rintro l0 pre ⟨k,p⟩ W K ⟨k4,hB1⟩ hK
  have hsW:=hB1.size
  unfold encQ Pc.val
  dsimp only
  gi_wp2
  exact hK _ _ ((KeepsOthers.alloc _ _).from _) (keepP_below (up_alloc (Below.refl _ _) _)) ⟨k4.alloc _,hB1.alloc hsW _⟩ trivial
 case body =>
  rintro l0 pre k a' W hl _ ⟨k4,hB1⟩ _ hlen
  exact absurd hlen (Nat.not_lt_zero _)
 case done =>
  rintro E ys W hE rfl ⟨k4,hB1⟩ hK
  have c4:=k4.cell
  gi_wp2
  refine ⟨by simp,.inl ⟨_,_,rfl,run_takeDeferred hK,?_⟩⟩
  exact ⟨_,results_tmp rfl _ _ _,rfl,hB1.trans (belowK_b (w:=w) (Nat.le_refl _) W E _ _ (by omega) hK rfl rfl)⟩
 case stop =>
  rintro D c pre W hD hpre h hK
  exact h.elim
set_option maxRecDepth 100000 in
set_option maxHeartbeats 4000000 in
theorem unfOrder_core (c r:Int) (a:Option Addr) (n cap:Nat) (w:World) (l:List Pc) (hl0:0<l.length) (hl64:l.length≤4096)
  (KF:∀ w1,Below w.heap.size w w1→Calls Tryz.prog 108 #[.agg #[.int .i64 c,.int .i64 r,.slice a n cap]] w1 fun e w'=>∃ D R,e=.returned (.pointer (some ⟨D,0,none⟩))∧Dp w' w1.heap.size D R l∧Below w1.heap.size w1 w') :
  Calls Tryz.prog 98 #[.agg #[.int .i64 c,.int .i64 r,.slice a n cap]] w fun e w'=>∃ v,e=.returned v∧rowI w' w.heap.size v (l.map Pc.n)∧Below w.heap.size w w':=by
 obtain ⟨i0,hi,hz0,hz1,hz2⟩:=info_parts Tryz.infoNum
 have HF:=Lib.hid KF
 have HB0:=Lib.hid (up_alloc (up_alloc (Below.refl _ w) (.cells #[.int .i64 c,.int .i64 r,.slice a n cap] 26)) (.cells #[.slice none 0 0] 49))
 clear KF
 refine (callsIn_wide (n:=3)).1 ?_
 refine callsIn_of_wp_marks Tryz.func98 rfl trivial ?_ rfl
 simp only [Tryz.ntmps98,List.size_toArray,List.length_cons,List.length_nil,Nat.reduceAdd,Nat.reduceSub,Array.replicate_succ,Array.replicate_zero,List.push_toArray,List.append_toArray,List.nil_append,List.cons_append]
 gi_wp2_with (first
  | (refine ⟨trivial,?_⟩;gi_at_call 108;refine (callsIn_wide.2 (HF.out _ HB0.out)).mono ?_;rintro e w1 ⟨D,R,rfl,hD,hb1⟩;have HD:=Lib.hid hD;have HB1:=Lib.hid (up_trans HB0.out hb1);have HN1:=Lib.hid hb1;clear hb1 hD)
  | (refine ⟨trivial,?_⟩;gi_at_call 110;refine (callsIn_wide.2 (pcAll_any _ _)).mono ?_;rintro e w4 ⟨rfl,rfl⟩))
 obtain ⟨W0,hW0⟩:∃ W0,w1.alloc (.cells #[.pointer (some ⟨D,0,none⟩)] 138)=W0:=⟨_,rfl⟩
 have upw:Below w.heap.size w W0:=by rw [←hW0];exact up_alloc HB1.out _
 have x0:Boxed W0 (w.heap.size+1) 49 (.slice none 0 0):=by
  have:=(Boxed.new (w.alloc (.cells #[.int .i64 c,.int .i64 r,.slice a n cap] 26)) 49 (.slice none 0 0))
  simp only [World.size_alloc] at this
  have h2:=HN1.out
  rw [←hW0]
  have h3:Boxed w1 (w.heap.size+1) 49 (.slice none 0 0):=(h2.block _ (by simp)).trans this
  exact h3.alloc _
 have yG:W0.cell? ⟨w1.heap.size,0,none⟩=some (.pointer (some ⟨D,0,none⟩)):=by rw [←hW0];simp [go_sem]
 have hsz:W0.heap.size=w1.heap.size+1:=by rw [←hW0];simp
 have hsw:=HN1.out.size
 simp only [World.size_alloc] at hsw
 have hD:=HD.out.up (show Below w1.heap.size w1 W0 by rw [←hW0];exact up_alloc (Below.refl _ _) _)
 rw [hW0]
 clear hW0 HD HF HN1
 refine wpIn_rangeFunc_ownH rfl (by decide) (gf:=122) (lb:=#[.pointer (some ⟨w1.heap.size,0,none⟩)]) rfl trivial (enters_of Tryz.func122 (by kernel_rfl) rfl)
  (pcAll_stops 2 w1.heap.size _ D R l hl0 (by omega) W0 yG hD) KeepP.trans (fun W l o o' _ h1 h2 _=>keepP_put W l o o' h1 h2) (Below.refl _ _) (fun _=>rfl)
  (fun pre W=>(∃ v,Boxed W (w.heap.size+1) 49 v∧W.ownsRow w.heap.size 3 1 v pre.length (numsV l pre)∧True)∧Below w.heap.size w W)
  (fun c pre W=>False)
  (OwnFrom.and (Own.from (holdsRow_own w.heap.size (w.heap.size+1) 49 3 1 (fun pre:List (Ix l.length)=>pre.length) (fun pre=>numsV l pre) (fun pre _=>True)) _) (ownFrom_below (Nat.le_refl _) (by omega)))
  (fun c=>ownFrom_pure _ (fun _=>False))
  ⟨⟨_,x0,World.ownsRow_nil _ _ _ _,trivial⟩,upw⟩
  (fun k a' W=>∃ Bq,w.heap.size+1<Bq∧BoxN W Bq 141 #[.int .i64 (l[k.1]'k.2).n,.int .i64 0,.bool (l[k.1]'k.2).fx,.bool (l[k.1]'k.2).fy] ∧
   a'={ tmps:=#[.agg #[.int .i64 c,.int .i64 r,.slice a n cap],.pointer (some ⟨w.heap.size,0,none⟩),.slice none 0 0,.pointer (some ⟨w.heap.size+1,0,none⟩),undef,.pointer (some ⟨Bq,0,none⟩),.agg #[.int .i64 c,.int .i64 r,.slice a n cap],.pointer (some ⟨D,0,none⟩),.func (.func 122) #[] #[.pointer (some ⟨w1.heap.size,0,none⟩)],.int .i64 (k.1:Int),.agg #[.int .i64 (l[k.1]'k.2).n,.int .i64 0,.bool (l[k.1]'k.2).fx,.bool (l[k.1]'k.2).fy],undef,undef,undef,undef,undef,undef],defers:=[] })
  (fun k a' _ X Y row hs hg hr=>by obtain ⟨Bx,h1,h2,h4⟩:=hs;exact ⟨Bx,h1,boxN_own Bx _ _ () X Y row h2 hg (fun r e=>(hr r e).2),h4⟩)
  ?assign ?body ?done ?stop
 case assign =>
  rintro l0 pre k W K ⟨⟨v,hv,hrow,-⟩,hB1⟩ hK
  have hsW:=hB1.size
  unfold encJ encQ Pc.val
  dsimp only
  obtain ⟨p,hp⟩:∃ p,l[k.1]'k.2=p:=⟨_,rfl⟩
  rw [hp] at hK ⊢
  gi_wp2
  exact hK _ _ ((KeepsOthers.alloc _ _).from _) (keepP_below (up_alloc (Below.refl _ _) _)) ⟨⟨v,hv.alloc _,hrow.alloc _,trivial⟩,hB1.alloc hsW _⟩ ⟨W.heap.size,hv.lt,World.alloc_heap_new W _,rfl⟩
 case body =>
  rintro l0 pre k a' W hl _ ⟨⟨v,hv,hrow,-⟩,hB1⟩ ⟨Bq,hBq,kQ,rfl⟩ hlen
  have hns:=numsV_snoc l pre k
  obtain ⟨p,hp⟩:∃ p,l[k.1]'k.2=p:=⟨_,rfl⟩
  rw [hp] at kQ hns ⊢
  have q0:=kQ.cell 0 rfl
  have hc:=hv.cell
  have hle:w.heap.size≤w.heap.size+1:=Nat.le_succ _
  have HQ:=Lib.hid kQ
  clear kQ
  gi_wp2_with (gi_at_builtin;refine wpListIn_append_own _ rfl _ _ 49 rfl w.heap.size 3 i0 (.int .i64 0) 1 8 Tryz.underlying49 hi hz0 hz1 hz2 rfl (by decide) _ _ _ rfl (hrow.alloc _) ⟨W.heap.size,0,none⟩ 1 1 [.int .i64 p.n] rfl rfl (cell_a _ _ _) (by simp [Value.oneCell']) (by unfold maxLen;omega) (by omega) (by have:=hB1.size;simp;omega) ?_;intro v' w5 hown' hgrow _;obtain ⟨g',cap',rfl⟩:=ownsRow_succ hown';obtain ⟨hv1,hv2,hr2,hk2,hb2⟩:=hv.appended (by decide) hrow hB1.size hle hown' hgrow;have hkp:=keepP_append hv hrow hown' hgrow hv1;have hc1:=hv1.cell;have hf1:=hv1.frozen)
  exact ⟨hk2.from _,hkp,⟨_,hv2,by rw [hns,List.length_append];exact hr2,trivial⟩,hB1.trans hb2⟩
 case done =>
  rintro E ys W hE rfl ⟨⟨v,hv,hrow,-⟩,hB1⟩ hK
  have c4:=hv.cell
  gi_wp2
  refine ⟨by simp,.inl ⟨_,_,rfl,run_takeDeferred hK,?_⟩⟩
  have h:=ownsRow_putObj hrow (.deferred none) hK rfl
  rw [numsV_all,ixs_length _ (Nat.le_refl _)] at h
  exact ⟨_,results_tmp rfl _ _ _,v,rfl,(by unfold rowI;rw [List.length_map];exact h),hB1.trans (belowK_b (w:=w) (Nat.le_refl _) W E _ _ (by omega) hK rfl rfl)⟩
 case stop =>
  rintro D c pre W hD hpre h hK
  exact h.elim
theorem unfOrder_yes (s:Sc) (a:Option Addr) (cap:Nat) (w:World) (hI:InL w a s.l) (hr:rightM s=true) :
  Calls Tryz.prog 98 #[.agg #[.int .i64 s.c,.int .i64 s.r,.slice a s.l.length cap]] w fun e w'=>∃ v,e=.returned v∧rowI w' w.heap.size v ((pcL s).map Pc.n)∧Below w.heap.size w w':=by
 obtain ⟨hc,hrr,hm,hl6,hall⟩:=right_bounds hr
 have hp:1≤s.c*s.r:=Int.le_trans (by omega) (Int.mul_le_mul hc.1 hrr.1 (by omega) (by omega):1*1≤s.c*s.r)
 have hlen:=pcL_length s
 exact unfOrder_core s.c s.r a s.l.length cap w (pcL s) (by omega) (by omega) (fun w1 h=>folded_yes s a cap w1 (hI.up h) hr)
end Go.Proofs.YtbbjileignefbaaGreatDoor
namespace Go.Proofs.YtbbjileignefbaaGreatDoor
open Go.RowKit Go.Lib
def Rp.cells (p:Rp):List Value:=[.int .i64 p.n,.int .i64 p.col,.int .i64 p.row,.bool p.fx,.bool p.fy]
def Rp.val (p:Rp):Value:=.agg #[.int .i64 p.n,.int .i64 p.col,.int .i64 p.row,.bool p.fx,.bool p.fy]
def rps (l:List Rp):List Value:=l.flatMap Rp.cells
theorem rps_cons (p:Rp) (l:List Rp):rps (p :: l)=p.cells++rps l:=rfl
theorem rps_append (l m:List Rp):rps (l++m)=rps l++rps m:=by simp [rps]
theorem rps_length (l:List Rp):(rps l).length=l.length*5:=by
 induction l with
 | nil=>rfl
 | cons p l ih=>rw [rps_cons,List.length_append,ih,List.length_cons];simp [Rp.cells];omega
theorem rps_one {l:List Rp}:∀ u∈rps l,u.oneCell'=true:=by
 intro u hu
 obtain ⟨p,_,hp⟩:=List.mem_flatMap.1 hu
 simp [Rp.cells] at hp
 rcases hp with rfl | rfl | rfl | rfl | rfl<;>rfl
theorem rps_at {l:List Rp} {j:Nat} {p:Rp} (h:l[j]?=some p) (i:Nat) (hi:i<5):(rps l)[j*5+i]?=p.cells[i]?:=by
 induction l generalizing j with
 | nil=>simp at h
 | cons q l ih =>
  rw [rps_cons]
  cases j with
  | zero =>
   simp only [List.getElem?_cons_zero,Option.some.injEq] at h
   subst h
   rw [List.getElem?_append_left (by simp [Rp.cells];omega)]
   simp
  | succ j =>
   rw [List.getElem?_cons_succ] at h
   rw [List.getElem?_append_right (by simp [Rp.cells];omega),←ih h]
   congr 1
   simp [Rp.cells]
   omega
theorem Tryz.infoRp:(Tryz.prog.info? 108).map (fun i=>(i.zero,i.size,i.bytes))=some (some (.agg #[.int .i64 0,.int .i64 0,.int .i64 0,.bool false,.bool false]),5,32):=by kernel_rfl
def RpsAt (w:World) (b:Nat) (l:List Rp):Prop:=∀ j u,(rps l)[j]?=some u→w.cell? ⟨b,j,none⟩=some u
theorem RpsAt.up {w w':World} {b:Nat} {l:List Rp} (h:RpsAt w b l) (hb:Below w.heap.size w w'):RpsAt w' b l:=fun j u hu=>bl_cell hb (h j u hu)
theorem RpsAt.cells {w:World} {b:Nat} {l:List Rp} (h:RpsAt w b l) {j:Nat} {p:Rp} (hp:l[j]?=some p) :
  w.cell? ⟨b,j*5,none⟩=some (.int .i64 p.n)∧w.cell? ⟨b,j*5+1,none⟩=some (.int .i64 p.col)∧w.cell? ⟨b,j*5+2,none⟩=some (.int .i64 p.row)∧w.cell? ⟨b,j*5+3,none⟩=some (.bool p.fx)∧w.cell? ⟨b,j*5+4,none⟩=some (.bool p.fy) :=
 ⟨h _ _ (rps_at hp 0 (by omega)),h _ _ (rps_at hp 1 (by omega)),h _ _ (rps_at hp 2 (by omega)),h _ _ (rps_at hp 3 (by omega)),h _ _ (rps_at hp 4 (by omega))⟩
def OwnR (w:World) (base:Nat) (v:Value) (l:List Rp):Prop:=w.ownsRow base 108 5 v l.length (rps l)
theorem OwnR.nil (w:World) (base:Nat):OwnR w base (.slice none 0 0) []:=World.ownsRow_nil _ _ _ _
theorem OwnR.up {w w':World} {base:Nat} {v:Value} {l:List Rp} (h:OwnR w base v l) (hb:Below w.heap.size w w'):OwnR w' base v l:=by
 refine World.ownsRow.kept h (row:=none) ⟨hb.os,hb.tape,hb.output,hb.size,fun k hk _=>hb.block k hk⟩ ?_
 rcases h.2 with ⟨rfl,_⟩ | ⟨g,cap,cur,rfl,_⟩
 ·exact .inl rfl
 ·exact .inr (by simp [Value.ownBlock])
theorem OwnR.base {w:World} {base:Nat} {v:Value} {l:List Rp} (h:OwnR w base v l) (b:Nat) (hb:b≤base):OwnR w b v l:=by
 refine ⟨h.1,?_⟩
 rcases h.2 with h0 | ⟨g,cap,cur,rfl,h1,h2⟩
 ·exact .inl h0
 ·exact .inr ⟨g,cap,cur,rfl,by omega,h2⟩
structure Rw (w:World) (base g cap:Nat) (l:List Rp):Prop where
 own:OwnR w base (.slice (some ⟨g,0,none⟩) l.length cap) l
theorem Rw.block {w:World} {base g cap:Nat} {l:List Rp} (h:Rw w base g cap l):∃ cur,w.heap[g]?=some (.cells cur 108 (0,0))∧l.length≤cap∧cap≤maxLen∧cur.size=cap*5∧cur.toList.take (l.length*5)=rps l∧base≤g:=by
 rcases h.own.2 with ⟨e,_⟩ | ⟨g',cap',cur,e,h1,h2,h3,h4,h5,h6⟩
 ·cases e
 ·cases e
  exact ⟨cur,h2,h3,h4,h5,h6,h1⟩
theorem Rw.of_block {w:World} {base g cap:Nat} {l:List Rp} {cur:Array Value} (h1:base≤g) (h2:w.heap[g]?=some (.cells cur 108 (0,0))) (h3:l.length≤cap) (h4:cap≤maxLen) (h5:cur.size=cap*5) (h6:cur.toList.take (l.length*5)=rps l):Rw w base g cap l :=
 ⟨⟨rps_length l,.inr ⟨g,cap,cur,rfl,h1,h2,h3,h4,h5,h6⟩⟩⟩
theorem Rw.lt {w:World} {base g cap:Nat} {l:List Rp} (h:Rw w base g cap l):base≤g∧g<w.heap.size:=World.ownsRow.lt h.own g rfl
theorem Rw.at {w:World} {base g cap:Nat} {l:List Rp} (h:Rw w base g cap l):RpsAt w g l:=fun j u hu=>by
 have:=World.ownsRow.cells h.own (g:=g) rfl j u hu
 rwa [show (⟨g,0,none⟩:Addr).add j=⟨g,j,none⟩ by unfold Addr.add;split<;>simp_all] at this
theorem Rw.free {w:World} {base g cap:Nat} {l:List Rp} (h:Rw w base g cap l) (j:Nat):w.frozen? ⟨g,j,none⟩=false:=by
 obtain ⟨cur,h2,_⟩:=h.block
 exact row_frozen h2 j
theorem Rw.up {w w':World} {base g cap:Nat} {l:List Rp} (h:Rw w base g cap l) (hb:Below w.heap.size w w'):Rw w' base g cap l:=by
 obtain ⟨cur,h2,h3,h4,h5,h6,h1⟩:=h.block
 exact Rw.of_block h1 ((hb.block g h.lt.2).trans h2) h3 h4 h5 h6
theorem Rw.base {w:World} {base g cap:Nat} {l:List Rp} (h:Rw w base g cap l) (b:Nat) (hb:b≤g):Rw w b g cap l:=by
 obtain ⟨cur,h2,h3,h4,h5,h6,h1⟩:=h.block
 exact Rw.of_block hb h2 h3 h4 h5 h6
theorem OwnR.form {w:World} {base:Nat} {v:Value} {l:List Rp} (h:OwnR w base v l) (hl:0<l.length):∃ g cap,v=.slice (some ⟨g,0,none⟩) l.length cap∧Rw w base g cap l:=by
 rcases h.2 with ⟨_,h0⟩ | ⟨g,cap,cur,rfl,_⟩
 ·omega
 ·exact ⟨g,cap,rfl,⟨h⟩⟩
theorem Rw.set {w:World} {base g cap:Nat} {l:List Rp} (h:Rw w base g cap l) {k:Nat} {p:Rp} (hk:l[k]?=some p) (i:Nat) (hi:i<5) (v:Value) (q:Rp) (hq:p.cells.set i v=q.cells):Rw (w.setCell ⟨g,k*5+i,none⟩ v) base g cap (l.set k q):=by
 obtain ⟨cur,h2,h3,h4,h5,h6,h1⟩:=h.block
 obtain ⟨hkl,hp⟩:=List.getElem?_eq_some_iff.1 hk
 have hs:(w.setCell ⟨g,k*5+i,none⟩ v).heap[g]?=some (.cells (cur.setIfInBounds (k*5+i) v) 108 (0,0)):=by
  simp only [World.setCell,Array.getElem?_modify,if_true,h2,Option.map_some]
  rfl
 refine Rw.of_block h1 hs (by rw [List.length_set];exact h3) h4 (by simp [h5]) ?_
 rw [List.length_set,Array.toList_setIfInBounds,List.take_set,h6]
 apply List.ext_getElem?
 intro j
 rw [List.getElem?_set,rps_length]
 by_cases hj:j<l.length*5
 ·have e1:(rps (l.set k q))[j]?=((l.set k q)[j / 5]'(by rw [List.length_set];omega)).cells[j%5]?:=by
   have:=rps_at (l:=l.set k q) (j:=j / 5) (List.getElem?_eq_getElem (by rw [List.length_set];omega)) (j%5) (by omega)
   rwa [show j / 5*5+j%5=j by omega] at this
  have e2:(rps l)[j]?=(l[j / 5]'(by omega)).cells[j%5]?:=by
   have:=rps_at (l:=l) (j:=j / 5) (List.getElem?_eq_getElem (by omega)) (j%5) (by omega)
   rwa [show j / 5*5+j%5=j by omega] at this
  rw [e1,e2,List.getElem_set]
  by_cases hkj:k=j / 5
  ·subst hkj
   rw [if_pos rfl,←hq,hp,List.getElem?_set]
   have hc:p.cells.length=5:=rfl
   by_cases hij:j / 5*5+i=j
   ·rw [if_pos hij,if_pos (by omega),if_pos (by omega),if_pos (by omega)]
   ·rw [if_neg hij,if_neg (by omega)]
  ·rw [if_neg (by omega),if_neg hkj]
 ·rw [if_neg (by omega),List.getElem?_eq_none (by rw [rps_length];omega),List.getElem?_eq_none (by rw [rps_length,List.length_set];omega)]
theorem Rw.set_but {w:World} {base g cap:Nat} {l:List Rp} (h:Rw w base g cap l) (k:Nat) (v:Value) {B:Nat} {w0:World} (hb:Below B w0 w) (hB:B≤g):Below B w0 (w.setCell ⟨g,k,none⟩ v):=hb.setCell hB v
set_option maxHeartbeats 1000000 in
theorem refMoved_any (p:Rp) (d n:Int) (u:Bool) (c r:Int) (w:World) (hd:1≤d∧d≤4) (hn:1≤n∧n≤64) (hc:1≤c∧c≤64) (hr:1≤r∧r≤64) :
  Calls Tryz.prog 92 #[p.val,.agg #[.int .i64 d,.int .i64 n,.bool u],.int .i64 c,.int .i64 r] w fun e w'=>e=.returned (.bool (movedM d n c r p))∧Below w.heap.size w w':=by
 unfold Rp.val
 obtain ⟨pn,pc,pr,fx,fy⟩:=p
 obtain ⟨q1,h1⟩:∃ q,c-n=q:=⟨_,rfl⟩
 obtain ⟨q2,h2⟩:∃ q,r-n=q:=⟨_,rfl⟩
 have w1:wrap64 (c-n)=q1:=by rw [h1];exact IntWalk.wrap64_in _ (by omega)
 have w2:wrap64 (r-n)=q2:=by rw [h2];exact IntWalk.wrap64_in _ (by omega)
 obtain rfl | rfl | rfl | rfl:d=1∨d=2∨d=3∨d=4:=by omega
 all_goals
  unfold movedM
  simp only [h1,h2]
  have H1:=Lib.hid h1;have H2:=Lib.hid h2
  clear h1 h2
  go_enter Tryz.func92,Tryz.ntmps92
  go_wp2
  go_ret
  refine ⟨by simp [H1.out,H2.out],?_⟩
  repeat (first | with_reducible exact Below.refl _ _ | apply up_alloc)
set_option maxHeartbeats 1000000 in
theorem refTurned_any (p:Rp) (d n:Int) (u:Bool) (c r:Int) (w:World) (hd:1≤d∧d≤4) (hn:1≤n∧n≤64) (hc:1≤c∧c≤64) (hr:1≤r∧r≤64) (hp:(0≤p.col∧p.col≤64)∧0≤p.row∧p.row≤64) :
  Calls Tryz.prog 93 #[p.val,.agg #[.int .i64 d,.int .i64 n,.bool u],.int .i64 c,.int .i64 r] w fun e w'=>e=.returned (turnedM d n c r p).val∧Below w.heap.size w w':=by
 unfold Rp.val
 obtain ⟨pn,pc,pr,fx,fy⟩:=p
 simp only at hp
 have a1:wrap64 (2*n)=2*n:=IntWalk.wrap64_in _ (by omega)
 have a2:wrap64 (2*n-1)=2*n-1:=IntWalk.wrap64_in _ (by omega)
 have a3:wrap64 (2*n-1-pc)=2*n-1-pc:=IntWalk.wrap64_in _ (by omega)
 have a4:wrap64 (2*n-1-pr)=2*n-1-pr:=IntWalk.wrap64_in _ (by omega)
 have b0:wrap64 (c-n)=c-n:=IntWalk.wrap64_in _ (by omega)
 have b1:wrap64 (2*(c-n))=2*(c-n):=IntWalk.wrap64_in _ (by omega)
 have b2:wrap64 (2*(c-n)-1)=2*(c-n)-1:=IntWalk.wrap64_in _ (by omega)
 have b3:wrap64 (2*(c-n)-1-pc)=2*(c-n)-1-pc:=IntWalk.wrap64_in _ (by omega)
 have e0:wrap64 (r-n)=r-n:=IntWalk.wrap64_in _ (by omega)
 have e1:wrap64 (2*(r-n))=2*(r-n):=IntWalk.wrap64_in _ (by omega)
 have e2:wrap64 (2*(r-n)-1)=2*(r-n)-1:=IntWalk.wrap64_in _ (by omega)
 have e3:wrap64 (2*(r-n)-1-pr)=2*(r-n)-1-pr:=IntWalk.wrap64_in _ (by omega)
 obtain rfl | rfl | rfl | rfl:d=1∨d=2∨d=3∨d=4:=by omega
 all_goals
  unfold turnedM
  go_enter Tryz.func93,Tryz.ntmps93
  go_wp2
  refine bodyPost_ret (v:=.agg _) (by simp [results,Tryz.results93,go_sem]) rfl ⟨rfl,?_⟩
  repeat (first | with_reducible exact Below.refl _ _ | apply up_alloc)
end Go.Proofs.YtbbjileignefbaaGreatDoor
