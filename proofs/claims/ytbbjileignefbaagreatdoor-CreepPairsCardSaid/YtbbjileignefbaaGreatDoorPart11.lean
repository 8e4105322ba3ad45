/- Part 11 of the texts that the proofs of this seat share: SchemeFind, SplitMay, RefLight, SplitLast, SchemeNames, LexSmall, LexFields, LexRefFields, StepRef. -/
import Derived.Test.YtbbjileignefbaaGreatDoorPart10
import Derived.Deep.RegionHeld3
import Derived.BigQuiet
import Derived.Test.YtbbjileignefbaaGreatDoorPart3
import Derived.Test.YtbbjileignefbaaGreatDoorPart2
import Derived.WalkKit
import Derived.Maps.AppendAt
import Derived.Maps.OwnIn
import Derived.Test.YtbbjileignefbaaGreatDoorPart1
import Derived.LoopN
set_option linter.unusedSimpArgs false
set_option linter.unusedVariables false
namespace Go.Proofs.YtbbjileignefbaaGreatDoor
open Go.RowKit Go.Shelf
attribute [local go_sem] Oper.semAt_some
theorem InL.kept {W W':World} {row:Option Nat} {a:Option Addr} {l:List Sp} (h:InL W a l) (hg:W.grownBy W' row) (hr:∀ r,row=some r→∃ o:Obj,W.heap[r]?=some o∧o.isCells=false):InL W' a l:=by
 rcases h with h | ⟨b,off,e,h⟩
 ·exact .inl h
 ·exact .inr ⟨b,off,e,fun j p hp=>by
   obtain ⟨h0,h1,h2⟩:=h j p hp
   exact ⟨cell_kept h0 hg hr,cell_kept h1 hg hr,cell_kept h2 hg hr⟩⟩
theorem Cells.kept {W W':World} {row:Option Nat} {B:Nat} {vs:List Value} (h:∀ j v,vs[j]?=some v→W.cell? ⟨B,j,none⟩=some v) (hg:W.grownBy W' row) (hr:∀ r,row=some r→∃ o:Obj,W.heap[r]?=some o∧o.isCells=false):∀ j v,vs[j]?=some v→W'.cell? ⟨B,j,none⟩=some v:=fun j v hj=>cell_kept (h j v hj) hg hr
theorem cat_splitText (x:CatE) (w:World) (hm:Mx w) :
  Calls Tryz.prog 79 #[.string (tx (textE x)),.string ⟨#[32]⟩] w fun e w'=>∃ a c,e=.returned (.slice a (partsM x.1.2).length c)∧TxA w' a c (partsM x.1.2)∧Below w.heap.size w w':=by
 obtain ⟨m,hm⟩:=hm
 have ht:textE x=joinM (partsC x.1.2):=by unfold textE;rw [cat_parts x.1 x.2]
 have hs:=cat_split x.1 x.2
 rw [←ht,←cat_parts x.1 x.2] at hs
 have hz:=(cat_short x.1 x.2).2.1
 rw [←ht] at hz
 have hl:(Lib.splitB ⟨#[32]⟩ 0 (Lib.countB (tx (textE x)) ⟨#[32]⟩) (tx (textE x))).map (·.data.toList)=partsM x.1.2:=by
  rw [Lib.splitB_data,data_tx,←hs]
  unfold Lib.split Lib.countB
  rw [data_tx]
 have hn:=Lib.splitB_all ⟨#[32]⟩ (by decide) 0 _ (tx (textE x)) rfl
 generalize hS:Lib.splitB ⟨#[32]⟩ 0 (Lib.countB (tx (textE x)) ⟨#[32]⟩) (tx (textE x))=S at *
 have hlen:(partsM x.1.2).length=S.length:=by rw [←hl];simp
 refine (Tryz.strings_Split (tx (textE x)) ⟨#[32]⟩ m w (by rw [tx_size];omega) hm (by decide)).mono ?_
 rintro e w' ⟨rfl,rfl⟩
 rw [hS,←hn]
 refine ⟨some ⟨w.heap.size,0,none⟩,S.length,by rw [hlen],.inr ⟨w.heap.size,0,rfl,fun i l hi=>?_,by omega,?_⟩,up_alloc (Below.refl _ _) _⟩
 ·rw [←hl] at hi
  simp only [List.getElem?_map,Option.map_eq_some_iff] at hi
  obtain ⟨b,hb,rfl⟩:=hi
  rw [tx_data]
  have hlt:=(List.getElem?_eq_some_iff.1 hb).1
  have hc:(w.alloc (.cells (S.map Value.string).toArray 9)).heap[w.heap.size]?=some (.cells (S.map Value.string).toArray 9 (0,0)):=heap_alloc_new w _
  unfold World.cell?
  simp only [hc]
  simp [hb]
 ·have:(partsM x.1.2).length≤7:=by
   have:=(toldB_true (cat_told x.1 x.2)).2.2.1
   simp [partsM];omega
  unfold maxLen;omega
theorem InF.kept {W W':World} {base:Nat} {row:Option Nat} {a:Option Addr} {l:List Sp} (h:InF base W a l) (hg:W.grownBy W' row) (hr:∀ r,row=some r→∃ o:Obj,W.heap[r]?=some o∧o.isCells=false):InF base W' a l:=by
 rcases h with h | ⟨b,off,e,h0,h⟩
 ·exact .inl h
 ·exact .inr ⟨b,off,e,h0,fun j p hp=>by
   obtain ⟨h0,h1,h2⟩:=h j p hp
   exact ⟨cell_kept h0 hg hr,cell_kept h1 hg hr,cell_kept h2 hg hr⟩⟩
theorem keepsO_below {W W':World} (h:Below W.heap.size W W'):KeepsOthers W W':=⟨h.size,fun k o hk _=>(h.block k (Array.getElem?_eq_some_iff.1 hk).1).trans hk⟩
theorem find_own (c':Code) (nm:List UInt8) (w:World) (B:Nat) (hB:w.heap.size≤B):OwnFrom B (fun (_:List CatE) W=>c'=.ret∧∃ (s:Sc) (a:Option Addr) (cap:Nat),findM nm=some s∧(∀ j v,[Value.int .i64 s.c,.int .i64 s.r,.slice a s.l.length cap][j]?=some v→W.cell? ⟨w.heap.size+1,j,none⟩=some v)∧W.cell? ⟨w.heap.size+1+1,0,none⟩=some (.bool true)∧InF w.heap.size W a s.l∧Below w.heap.size w W):=by
 rintro _ W W' row ⟨e,s,a,cap,h1,h2,h3,h4,h5⟩ hg hr
 have hr':∀ r,row=some r→∃ o:Obj,W.heap[r]?=some o∧o.isCells=false:=fun r e=>(hr r e).2
 exact ⟨e,s,a,cap,h1,Cells.kept h2 hg hr',cell_kept h3 hg hr',h4.kept hg hr',h5.grown hg h5.size (fun k e=>by have:=(hr k e).1;omega)⟩
set_option maxRecDepth 100000 in
set_option maxHeartbeats 4000000 in
theorem schFind_any (nm:List UInt8) (w:World) (hg:GoodM w):Calls Tryz.prog 61 #[.string (tx nm)] w (GivesS (findM nm) w):=by
 obtain ⟨N,hN⟩:∃ N,tx nm=N:=⟨_,rfl⟩
 have HN:=Lib.hid hN
 rw [hN]
 clear hN
 refine (callsIn_wide (n:=3)).1 ?_
 refine callsIn_of_wp_marks Tryz.func61 rfl trivial ?_ rfl
 simp only [Tryz.ntmps61,List.size_toArray,List.length_cons,List.length_nil,Nat.reduceAdd,Nat.reduceSub,Array.replicate_succ,Array.replicate_zero,List.push_toArray,List.append_toArray,List.nil_append,List.cons_append]
 gi_wp2
 have x0:=((Bx.new w 9 [.string N]).alloc (.cells #[.int .i64 0,.int .i64 0,.slice none 0 0] 26)).alloc (.cells #[.bool false] 4)
 have x1:=(Bx.new (w.alloc (.cells #[.string N] 9)) 26 [.int .i64 0,.int .i64 0,.slice none 0 0]).alloc (.cells #[.bool false] 4)
 have x2:=Bx.new ((w.alloc (.cells #[.string N] 9)).alloc (.cells #[.int .i64 0,.int .i64 0,.slice none 0 0] 26)) 4 [.bool false]
 simp only [World.size_alloc] at x1 x2
 obtain ⟨W0,hW0⟩:∃ W0,(((w.alloc (.cells #[.string N] 9)).alloc (.cells #[.int .i64 0,.int .i64 0,.slice none 0 0] 26)).alloc (.cells #[.bool false] 4))=W0:=⟨_,rfl⟩
 have upw:Below w.heap.size w W0:=by rw [←hW0];exact up_alloc (up_alloc (up_alloc (Below.refl _ _) _) _) _
 have hsz:W0.heap.size=w.heap.size+3:=by rw [←hW0];simp
 have X0:Bx W0 w.heap.size [.string N]:=by rw [←hW0];exact x0
 have X1:Bx W0 (w.heap.size+1) [.int .i64 0,.int .i64 0,.slice none 0 0]:=by rw [←hW0];exact x1
 have X2:Bx W0 (w.heap.size+1+1) [.bool false]:=by rw [←hW0];exact x2
 rw [hW0]
 clear hW0 x0 x1 x2
 have G0:=hg.below upw
 have HU:=Lib.hid upw;have HSZ:=Lib.hid hsz;have HX0:=Lib.hid X0;have HX1:=Lib.hid X1;have HX2:=Lib.hid X2;have HG:=Lib.hid G0
 clear upw X0 X1 X2 G0 hg
 refine wpIn_rangeFunc_ownG_of_H rfl (by decide) (gf:=77) (lb:=#[]) rfl trivial (enters_of Tryz.func77 (by kernel_rfl) rfl)
  (catalogue_stops 2 W0 HG.out.2) belowK_t (belowK_b (Nat.le_refl _)) (Below.refl _ _) (fun _=>rfl)
  (fun pre W=>(∀ e∈pre,e.1.1≠nm)∧Below W0.heap.size W0 W)
  (fun c' pre W=>c'=.ret∧∃ (s:Sc) (a:Option Addr) (cap:Nat),findM nm=some s∧(∀ j v,[Value.int .i64 s.c,.int .i64 s.r,.slice a s.l.length cap][j]?=some v→W.cell? ⟨w.heap.size+1,j,none⟩=some v)∧W.cell? ⟨w.heap.size+1+1,0,none⟩=some (.bool true)∧InF w.heap.size W a s.l∧Below w.heap.size w W)
  (OwnFrom.and (ownFrom_pure _ _) (ownFrom_below (Nat.le_refl _) (Nat.le_refl _)))
  (fun c'=>find_own c' nm w W0.heap.size (by omega))
  ⟨fun e he=>(by cases he),Below.refl _ _⟩
  (fun x=>{ tmps:=#[.string N,.pointer (some ⟨w.heap.size,0,none⟩),.pointer (some ⟨w.heap.size+1,0,none⟩),.pointer (some ⟨w.heap.size+1+1,0,none⟩),.string (tx x.1.1),.string (tx (textE x)),.string (tx x.1.1),.string (tx (textE x)),undef,undef,undef,undef,undef,undef,undef,undef,undef],defers:=[] })
  ?assign ?body ?done ?stop (Below.refl _)
 case assign =>
  intro l x W K hK
  unfold encE
  gi_wp2
  exact hK
 case body =>
  rintro l0 pre x W ⟨hne,hB⟩ hlen
  have y0:=HX0.out.up hB
  have y1:=HX1.out.up hB
  have y2:=HX2.out.up hB
  have a0:=y0.cell 0 rfl
  have hz:=hB.size
  have HB:=Lib.hid hB;have HNE:=Lib.hid hne
  have GW:=Lib.hid (HG.out.below hB)
  have e:=tx_same x.1.1 nm
  rw [HN.out] at e
  by_cases hx:x.1.1=nm
  ·rw [decide_eq_true hx] at e
   have HF:=Lib.hid (show findM nm=some x.1.2 by rw [←hx];exact (find_of_mem x.2).1)
   have KS:=cat_splitText x W GW.out.2
   have KR:=fun a c w1 (h:TxA w1 a c (partsM x.1.2)) (hg:GoodM w1)=>schRead_any a c (partsM x.1.2) w1 h (fun p hp=>by rw [cat_parts x.1 x.2] at hp;have:=(cat_short x.1 x.2).2.2 p hp;omega) hg
   rw [read_parts x.1.2 (cat_told x.1 x.2)] at KR
   have HKS:=Lib.hid KS;have HKR:=Lib.hid KR
   generalize tx (textE x)=T at *
   generalize tx x.1.1=Q at *
   generalize partsM x.1.2=ls at *
   generalize x.1.2=s at *
   clear KS KR hne hB hx
   gi_wp2_with (first
    | (refine ⟨trivial,?_⟩;gi_at_call 79;refine (CallsIn.inRound l0 (callsIn_wide.2 HKS.out)).mono ?_;rintro e w1 ⟨a1,c1,rfl,hT,hb1⟩)
    | (refine ⟨trivial,?_⟩;gi_at_call 78;refine (CallsIn.inRound l0 (callsIn_wide.2 (HKR.out _ _ _ hT (GW.out.below hb1)))).mono ?_;rintro e w2 ⟨a2,c2,rfl,hF,hb2⟩;have q1:=(y1.up hb1).up hb2;have q2:=(y2.up hb1).up hb2;have r0:=q1.cell 0 rfl;have r1:=q1.cell 1 rfl;have r2:=q1.cell 2 rfl;have rf:=q1.free;have s0:=q2.cell 0 rfl;have sf:=q2.free))
   have ho:=(((keepsO_below (up_trans hb1 hb2)).trans (KeepsOthers.setCell w2 ⟨w.heap.size+1,0,none⟩ (.int .i64 s.c))).trans (KeepsOthers.setCell _ ⟨w.heap.size+1,1,none⟩ (.int .i64 s.r))).trans ((KeepsOthers.setCell _ ⟨w.heap.size+1,2,none⟩ (.slice a2 s.l.length c2)).trans (KeepsOthers.setCell _ ⟨w.heap.size+1+1,0,none⟩ (.bool true)))
   refine ⟨ho.from _,rfl,s,a2,c2,HF.out,((q1.set3 _ _ _).far (p:=⟨w.heap.size+1+1,0,none⟩) (by simp only;omega) _).1,?_,?_,?_⟩
   ·exact (((((q2.far (p:=⟨w.heap.size+1,0,none⟩) (by simp only;omega) _).far (p:=⟨w.heap.size+1,1,none⟩) (by simp only;omega) _).far (p:=⟨w.heap.size+1,2,none⟩) (by simp only;omega) _).set 0 (.bool true)).cell 0 rfl)
   ·have hs1:=hb1.size
    have hF':InF (w.heap.size+3) w2 a2 s.l:=InF.mono hF (by omega)
    refine InF.mono (base:=w.heap.size+3) ?_ (by omega)
    repeat (first | (with_reducible exact hF') | (with_reducible refine InF.set ?_ (by simp only;omega) _))
   ·have B2:=(HU.out.trans (HB.out.mono (by omega))).trans ((up_trans hb1 hb2).mono (by omega))
    repeat (first | (with_reducible exact B2) | (with_reducible refine up_set ?_ (by simp only;omega) _))
  ·rw [decide_eq_false hx] at e
   generalize tx (textE x)=T at *
   have HX:=Lib.hid hx
   generalize tx x.1.1=Q at *
   clear hne hB hx
   gi_wp2
   exact ⟨KeepsFrom.refl _ _,Below.refl _ _,fun y hy=>by
    rcases List.mem_append.1 hy with h | h
    ·exact HNE.out y h
    ·obtain rfl:=List.mem_singleton.1 h;exact HX.out,HB.out⟩
 case done =>
  rintro D ys W hD rfl ⟨hne,hB⟩ hK
  have E:=Lib.hid (show findM nm=none from find_none fun e he h=>hne ⟨e,he⟩ (List.mem_attach _ _) h)
  have y1:=HX1.out.up hB
  have y2:=HX2.out.up hB
  have r0:=y1.cell 0 rfl;have r1:=y1.cell 1 rfl;have r2:=y1.cell 2 rfl;have rf:=y1.free;have s0:=y2.cell 0 rfl;have sf:=y2.free
  have hB1:=Lib.hid (HU.out.trans (hB.mono (by omega)))
  clear hne hB
  gi_wp2
  have hK':=((((KeepsOthers.setCell W ⟨w.heap.size+1,0,none⟩ (.int .i64 0)).trans (KeepsOthers.setCell _ ⟨w.heap.size+1,1,none⟩ (.int .i64 0))).trans (KeepsOthers.setCell _ ⟨w.heap.size+1,2,none⟩ (.slice none 0 0))).trans (KeepsOthers.setCell _ ⟨w.heap.size+1+1,0,none⟩ (.bool false))).same D _ hK rfl
  refine ⟨by simp,.inl ⟨_,_,rfl,run_takeDeferred hK',?_⟩⟩
  have p0:=Cells.kept ((y1.set3 (.int .i64 0) (.int .i64 0) (.slice none 0 0)).far (p:=⟨w.heap.size+1+1,0,none⟩) (by simp only;omega) (.bool false)).1 (grownBy_putObj' _ D (.deferred none)) (fun r e=>by cases e;exact ⟨_,hK',rfl⟩)
  have p1:=cell_kept (((((y2.far (p:=⟨w.heap.size+1,0,none⟩) (by simp only;omega) (.int .i64 0)).far (p:=⟨w.heap.size+1,1,none⟩) (by simp only;omega) (.int .i64 0)).far (p:=⟨w.heap.size+1,2,none⟩) (by simp only;omega) (.slice none 0 0)).set 0 (.bool false)).cell 0 rfl) (grownBy_putObj' _ D (.deferred none)) (fun r e=>by cases e;exact ⟨_,hK',rfl⟩)
  have c0:=p0 0 _ rfl;have c1:=p0 1 _ rfl;have c2:=p0 2 _ rfl
  refine ⟨.tuple #[.agg #[.int .i64 0,.int .i64 0,.slice none 0 0],.bool false],by simp [results,Tryz.results61,go_sem,c0,c1,c2,p1],?_⟩
  rw [E.out]
  refine gives_none ?_
  refine Below.trans ?_ (belowK_b (w:=w) (Nat.le_refl _) _ D _ _ (by omega) hK' rfl rfl)
  have B2:=hB1.out
  repeat (first | (with_reducible exact B2) | (with_reducible refine up_set ?_ (by simp only;omega) _))
 case stop =>
  rintro D c' pre W hD hpre ⟨rfl,s,a,cap,h1,h2,h3,h4,h5⟩ hK
  have H2:=Lib.hid h2;have H4:=Lib.hid h4;have H5:=Lib.hid h5;have H1:=Lib.hid h1
  clear h1 h2 h4 h5
  gi_wp2
  refine ⟨by simp,.inl ⟨_,_,rfl,run_takeDeferred hK,?_⟩⟩
  have p0:=Cells.kept H2.out (grownBy_putObj' _ D (.deferred none)) (fun r e=>by cases e;exact ⟨_,hK,rfl⟩)
  have p1:=cell_kept h3 (grownBy_putObj' _ D (.deferred none)) (fun r e=>by cases e;exact ⟨_,hK,rfl⟩)
  have c0:=p0 0 _ rfl;have c1:=p0 1 _ rfl;have c2:=p0 2 _ rfl
  refine ⟨.tuple #[.agg #[.int .i64 s.c,.int .i64 s.r,.slice a s.l.length cap],.bool true],by simp [results,Tryz.results61,go_sem,c0,c1,c2,p1],?_⟩
  rw [H1.out]
  exact ⟨a,cap,rfl,H4.out.kept (grownBy_putObj' _ D (.deferred none)) (fun r e=>by cases e;exact ⟨_,hK,rfl⟩),H5.out.trans (belowK_b (w:=w) (Nat.le_refl _) _ D _ _ (by omega) hK rfl rfl)⟩
end Go.Proofs.YtbbjileignefbaaGreatDoor
namespace Go.Proofs.YtbbjileignefbaaGreatDoor
open Go.RowKit
set_option maxHeartbeats 1000000 in
theorem spMay_core (cs:List Value) (b c r p q:Int) (a:Option Addr) (n cap:Nat) (N:ByteArray) (sc sr:Int) (l:List Sp) (m:Nat) (u v t V:Bool) (w:World) (h11:cs[11]?=some (.int .i64 b)) (h12:cs[12]?=some (.int .i64 c)) (h13:cs[13]?=some (.int .i64 r)) (h14:cs[14]?=some (.slice a n cap))
  (e1:decide (q≤p)=t) (e2:(b==1)=v) (e3:(b != 1)=!v)
  (KF:∀ w1,Below w.heap.size w w1→Calls Tryz.prog 61 #[.string N] w1 fun e w'=>∃ a1 c1,e=.returned (.tuple #[.agg #[.int .i64 sc,.int .i64 sr,.slice a1 m c1],.bool u])∧InL w' a1 l∧Below w1.heap.size w1 w')
  (KP:∀ a m k w1,Calls Tryz.prog 47 #[.agg #[.int .i64 sc,.int .i64 sr,.slice a m k]] w1 fun e w'=>e=.returned (.int .i64 p)∧Below w1.heap.size w1 w')
  (KQ:∀ w1,Calls Tryz.prog 47 #[.agg #[.int .i64 c,.int .i64 r,.slice a n cap]] w1 fun e w'=>e=.returned (.int .i64 q)∧Below w1.heap.size w1 w')
  (KN:∀ a1 k w1,InL w1 a1 l→Calls Tryz.prog 76 #[.agg #[.int .i64 sc,.int .i64 sr,.slice a1 m k]] w1 fun e w'=>e=.returned (.bool V)∧Below w1.heap.size w1 w') :
  Calls Tryz.prog 60 #[.agg cs.toArray,.string N] w fun e w'=>e=.returned (.bool (u&&(!t&&(!v || V))))∧Below w.heap.size w w':=by
 have HX:=Bx.new w 29 cs
 have HB:=Lib.hid (up_alloc (Below.refl w.heap.size w) (.cells cs.toArray 29))
 have c11:=HX.cell 11 h11;have c12:=HX.cell 12 h12;have c13:=HX.cell 13 h13;have c14:=HX.cell 14 h14
 have HF:=Lib.hid KF;have HP:=Lib.hid KP;have HQ:=Lib.hid KQ;have HN:=Lib.hid KN
 clear KF KP KQ KN h11 h12 h13 h14 HX
 generalize cs.toArray=ca at *
 go_enter Tryz.func60,Tryz.ntmps60
 go_wp2_with fail
 refine (HF.out _ HB.out).mono ?_
 rintro e w1 ⟨a1,k1,rfl,hI,hb⟩
 have S:=Bx.new w1 26 [.int .i64 sc,.int .i64 sr,.slice a1 m k1]
 have U:=up_alloc (Below.refl w1.heap.size w1) (.cells #[.int .i64 sc,.int .i64 sr,.slice a1 m k1] 26)
 have B1:=Lib.hid (up_trans (up_trans HB.out hb) U)
 have b11:=bl_cell U (bl_cell hb c11);have b12:=bl_cell U (bl_cell hb c12);have b13:=bl_cell U (bl_cell hb c13);have b14:=bl_cell U (bl_cell hb c14)
 have s0:=S.cell 0 rfl;have s1:=S.cell 1 rfl;have s2:=S.cell 2 rfl
 have HI:=Lib.hid (hI.up U)
 clear hb S U c11 c12 c13 c14 hI
 go_wp2_with fail
 obtain ⟨w2,hw2⟩:∃ w2,w1.alloc (.cells #[.int .i64 sc,.int .i64 sr,.slice a1 m k1] 26)=w2:=⟨_,rfl⟩
 rw [hw2] at b11 b12 b13 b14 s0 s1 s2 HI B1 ⊢
 clear hw2
 cases u
 ·clear e1 e2 e3
  refine later_start (w:=w2) ?_
  intro x
  refine wp_region_later (by kernel_rfl) (by kernel_rfl) ?_
  repeat (go_big_quiet_step (fail))
  refine wpQuiet_nil ?_
  rintro _ ⟨x2,rfl⟩
  have BB:=Lib.hid (up_trans B1.out x2.up)
  go_wp2
  go_ret
  exact ⟨rfl,BB.out⟩
 have j0:=fun x:Later w2=>x.cell s0
 have j1:=fun x:Later w2=>x.cell s1
 have j2:=fun x:Later w2=>x.cell s2
 have j11:=fun x:Later w2=>x.cell b11
 have j12:=fun x:Later w2=>x.cell b12
 have j13:=fun x:Later w2=>x.cell b13
 have j14:=fun x:Later w2=>x.cell b14
 clear s0 s1 s2 b11 b12 b13 b14
 cases t
 ·cases v
  ·refine later_start (w:=w2) ?_
   intro x
   refine wp_region_later (by kernel_rfl) (by kernel_rfl) ?_
   repeat (go_big_quiet_step ((go_at_call 47;first | with_reducible exact Later.call (HP.out _ _ _ _) | with_reducible exact Later.call (HQ.out _))))
   refine wpQuiet_nil ?_
   rintro _ ⟨x2,rfl⟩
   have BB:=Lib.hid (up_trans B1.out x2.up)
   go_wp2
   go_ret
   exact ⟨rfl,BB.out⟩
  ·refine later_start (w:=w2) ?_
   intro x
   refine wp_region_later (by kernel_rfl) (by kernel_rfl) ?_
   repeat (go_big_quiet_step ((go_at_call 47;first | with_reducible exact Later.call (HP.out _ _ _ _) | with_reducible exact Later.call (HQ.out _))))
   refine wpQuiet_nil ?_
   rintro _ ⟨x2,rfl⟩
   have BB:=Lib.hid (up_trans B1.out x2.up)
   go_wp2_with fail
   refine (HN.out _ _ _ (HI.out.up x2.up)).mono ?_
   rintro e w3 ⟨rfl,hb⟩
   have B3:=Lib.hid (up_trans BB.out hb)
   clear hb
   go_wp2
   go_ret
   exact ⟨by simp,B3.out⟩
 ·refine later_start (w:=w2) ?_
  intro x
  refine wp_region_later (by kernel_rfl) (by kernel_rfl) ?_
  repeat (go_big_quiet_step ((go_at_call 47;first | with_reducible exact Later.call (HP.out _ _ _ _) | with_reducible exact Later.call (HQ.out _))))
  refine wpQuiet_nil ?_
  rintro _ ⟨x2,rfl⟩
  have BB:=Lib.hid (up_trans B1.out x2.up)
  go_wp2
  go_ret
  exact ⟨rfl,BB.out⟩
theorem found_bounds (nm:List UInt8):((findM nm).getD zeroSc).c≤9223372036854775807∧((findM nm).getD zeroSc).r≤9223372036854775807∧((findM nm).getD zeroSc).l.length≤6:=by
 cases h:findM nm with
 | none=>exact ⟨by decide,by decide,by decide⟩
 | some s =>
  have:=right_bounds (find_right h)
  simp only [Option.getD_some]
  omega
theorem may_eq (b p q:Int) (u V:Bool):(u&&(!(decide (q≤p))&&(!(b==1) || V)))=(u&&(decide (p<q)&&(!decide (b=1) || V))):=by
 have e1:(b==1)=decide (b=1):=by rw [Bool.eq_iff_iff];simp
 have e2:(!(decide (q≤p)))=decide (p<q):=by rw [Bool.eq_iff_iff];simp
 rw [e1,e2]
theorem spMay_any (cs:List Value) (j:Jb) (nm:List UInt8) (w:World) (h:JobA w cs j) (hg:GoodM w) :
  Calls Tryz.prog 60 #[.agg cs.toArray,.string (tx nm)] w fun e w'=>e=.returned (.bool (endB (j.n 10) (panS j.f) nm))∧Below w.heap.size w w':=by
 obtain ⟨a,c,a',c',h12,h13,h14,h15,hI,hT⟩:=h.cells
 obtain ⟨g1,g2,g3⟩:=found_bounds nm
 have K:=spMay_core cs (j.n 10) j.f.c j.f.r _ _ a _ c (tx nm) _ _ ((findM nm).getD zeroSc).l _ _ _ _ _ w (h.num (k:=10) (by decide)) h12 h13 h14 rfl rfl rfl
  (fun w1 hb=>(schFind_any nm w1 (hg.below hb)).mono fun e w' ⟨a1,c1,he,hF,hb1⟩=>⟨a1,c1,he,hF.inL,hb1⟩)
  (fun a m k w1=>schPanels_any _ _ a m k w1) (fun w1=>schPanels_any _ _ _ _ _ w1) (fun a1 k w1 hI1=>spNests_any _ a1 k w1 g1 g2 (by omega) hI1)
 rw [may_eq] at K
 exact K
theorem take_next {α:Type} {l:List α} {k:Nat} {x:α} (h:l[k]?=some x):l.take (k+1)=l.take k++[x]:=by
 rw [List.take_add_one,h];rfl
def SmallJ (j:Jb):Prop:=j.t.length≤100∧j.ls.length≤6∧j.f.l.length≤10∧(j.n 0≤300∨100000<j.n 0)∧∀ x∈j.ls,x.length≤60
theorem light_out (T:ByteArray) (n:Nat→Int) (c r:Int) (a a':Option Addr) (m d k d':Nat) (b1 b2 b3 b4 b5:Bool) (w:World) (h1:decide ((100:Int)<(T.size:Int))=b1) (h2:decide ((6:Int)<(k:Int))=b2) (h3:decide ((10:Int)<(m:Int))=b3) (h4:decide ((300:Int)<n 0)=b4) (h5:decide (n 0≤100000)=b5)
  (h:(b1 || b2 || b3 || (b4&&b5))=true) :
  Calls Tryz.prog 6 #[.agg (jobL T n c r (.slice a m d) (.slice a' k d')).toArray] w fun e w'=>e=.returned (.bool false)∧Below w.heap.size w w':=by
 have HX:=Bx.new w 29 (jobL T n c r (.slice a m d) (.slice a' k d'))
 have c0:=HX.cell 0 rfl;have c1:=HX.cell 1 rfl;have c14:=HX.cell 14 rfl;have c15:=HX.cell 15 rfl
 have HB:=Lib.hid (up_alloc (Below.refl w.heap.size w) (.cells (jobL T n c r (.slice a m d) (.slice a' k d')).toArray 29))
 clear HX
 generalize n 0=p at *
 generalize (jobL T n c r (.slice a m d) (.slice a' k d')).toArray=cs at *
 have HH:=Lib.hid h
 clear h
 cases b1
 ·cases b2
  ·cases b3
   ·cases b4
    ·exact absurd HH.out (by simp)
    ·cases b5
     ·exact absurd HH.out (by decide)
     ·go_enter Tryz.func6,Tryz.ntmps6
      go_wp2
      go_ret
      exact ⟨rfl,HB.out⟩
   ·go_enter Tryz.func6,Tryz.ntmps6
    go_wp2
    go_ret
    exact ⟨rfl,HB.out⟩
  ·go_enter Tryz.func6,Tryz.ntmps6
   go_wp2
   go_ret
   exact ⟨rfl,HB.out⟩
 ·go_enter Tryz.func6,Tryz.ntmps6
  go_wp2
  go_ret
  exact ⟨rfl,HB.out⟩
theorem light_in (T:ByteArray) (n:Nat→Int) (c r:Int) (a a':Option Addr) (m d k d':Nat) (ls:List (List UInt8)) (b4 b5:Bool) (w:World) (hk:ls.length=k) (hT:TxA w a' d' ls) (hz:∀ x∈ls,x.length≤maxLen)
  (h1:decide ((100:Int)<(T.size:Int))=false) (h2:decide ((6:Int)<(k:Int))=false) (h3:decide ((10:Int)<(m:Int))=false) (h4:decide ((300:Int)<n 0)=b4) (h5:decide (n 0≤100000)=b5)
  (h:(b4&&b5)=false) :
  Calls Tryz.prog 6 #[.agg (jobL T n c r (.slice a m d) (.slice a' k d')).toArray] w fun e w'=>∃ b,e=.returned (.bool b)∧(b=true→∀ x∈ls,x.length≤60)∧Below w.heap.size w w':=by
 have HX:=Bx.new w 29 (jobL T n c r (.slice a m d) (.slice a' k d'))
 have c0:=HX.cell 0 rfl;have c1:=HX.cell 1 rfl;have c14:=HX.cell 14 rfl;have c15:=HX.cell 15 rfl
 have HB:=Lib.hid (up_alloc (Below.refl w.heap.size w) (.cells (jobL T n c r (.slice a m d) (.slice a' k d')).toArray 29))
 have HA:=Lib.hid (hT.up HB.out)
 have HN:=Lib.hid hk;have HZ:=Lib.hid hz
 have hk6:k≤6:=by simp only [decide_eq_false_iff_not] at h2;omega
 clear HX hT hk hz
 generalize n 0=p at *
 generalize (jobL T n c r (.slice a m d) (.slice a' k d')).toArray=cs at *
 go_enter Tryz.func6,Tryz.ntmps6
 cases b4<;>cases b5<;>first | (exact absurd h (by decide)) | skip
 all_goals
  clear h
  go_wp2
  obtain ⟨w1,hw1⟩:∃ w1,w.alloc (.cells cs 29)=w1:=⟨_,rfl⟩
  rw [hw1] at c0 c1 c14 c15 HB HA ⊢
  clear hw1 h1 h2 h3 h4 h5 c0 c1 c14
  go_loopw [3] (fun i wr=>∃ j:Nat,j≤k∧i=.int .i64 (j:Int)∧Hid (∀ x∈ls.take j,x.length≤60)∧wr=w1) (fun i _=>k-(intOf i).toNat)
  case atStart=>exact ⟨0,by omega,by go_num,Lib.hid (by simp),rfl⟩
  case round =>
   obtain ⟨j,hj,rfl,H60,hwr⟩:=hrel
   obtain rfl:w1=wr:=hwr.symm
   clear hwr
   by_cases hlt:j<k
   ·obtain ⟨x,hx⟩:∃ x,ls[j]?=some x:=⟨ls[j]'(by rw [HN.out];exact hlt),List.getElem?_eq_getElem _⟩
    obtain ⟨g,o,rfl,hc,-,-⟩:=HA.out.resolve_left (by rintro rfl;cases hx)
    have hcx:=hc j x hx
    have hxz:=HZ.out x (List.mem_of_getElem? hx)
    have z0:(0:Int)≤(j:Int):=by omega
    have z3:(j:Int)<(k:Int):=by omega
    have htk:=take_next hx
    obtain ⟨X,hX⟩:∃ X,tx x=X:=⟨_,rfl⟩
    have hXs:X.size=x.length:=by rw [←hX,tx_size]
    rw [hX] at hcx
    unfold maxLen at hxz
    by_cases h60:60<X.size
    ·have z4:(60:Int)<(X.size:Int):=by omega
     clear hx hc htk hX
     go_wp2
     go_ret
     exact ⟨false,rfl,fun h=>(nomatch h),HB.out⟩
    ·have z4:decide ((60:Int)<(X.size:Int))=false:=by simp;omega
     have H61:=Lib.hid (show ∀ y∈ls.take (j+1),y.length≤60 by
      rw [htk]
      intro y hy
      rcases List.mem_append.1 hy with h | h
      ·exact H60.out y h
      ·obtain rfl:=List.mem_singleton.1 h;omega)
     clear hx hc htk hX
     go_wp2
     go_roundw
     case rel=>exact ⟨j+1,by omega,by go_num,H61,by trivial⟩
     case measure=>simp [intOf];omega
   ·obtain rfl:j=k:=by omega
    have hall:ls.take j=ls:=List.take_of_length_le (by rw [HN.out];omega)
    have hz60:=H60.out
    rw [hall] at hz60
    have HH:=Lib.hid hz60
    clear hall hz60
    go_wp2
    go_ret
    exact ⟨true,rfl,fun _=>HH.out,HB.out⟩
theorem refLight_any (cs:List Value) (j:Jb) (w:World) (h:JobA w cs j) (ht:j.t.length≤maxLen) (hz:∀ x∈j.ls,x.length≤maxLen) :
  Calls Tryz.prog 6 #[.agg cs.toArray] w fun e w'=>∃ b,e=.returned (.bool b)∧(b=true→SmallJ j)∧Below w.heap.size w w':=by
 obtain ⟨a,d,a',d',rfl,h1,h2⟩:=h
 by_cases hs:(decide ((100:Int)<((tx j.t).size:Int)) || decide ((6:Int)<(j.ls.length:Int)) || decide ((10:Int)<(j.f.l.length:Int)) || (decide ((300:Int)<j.n 0)&&decide (j.n 0≤100000)))=true
 ·exact (light_out _ _ _ _ _ _ _ _ _ _ _ _ _ _ _ w rfl rfl rfl rfl rfl hs).mono fun e w' ⟨he,hb⟩=>⟨false,he,fun h=>(by cases h),hb⟩
 ·simp only [Bool.or_eq_true,not_or,Bool.not_eq_true] at hs
  obtain ⟨⟨⟨s1,s2⟩,s3⟩,s4⟩:=hs
  refine (light_in _ _ _ _ _ _ _ _ _ _ j.ls _ _ w rfl h2 hz s1 s2 s3 rfl rfl s4).mono ?_
  rintro e w' ⟨b,he,hh,hb⟩
  refine ⟨b,he,fun h=>⟨?_,?_,?_,?_,hh h⟩,hb⟩
  ·rw [tx_size] at s1;simp only [decide_eq_false_iff_not] at s1;omega
  ·simp only [decide_eq_false_iff_not] at s2;omega
  ·simp only [decide_eq_false_iff_not] at s3;omega
  ·simp only [Bool.and_eq_false_iff,decide_eq_false_iff_not] at s4;omega
theorem all_snoc {E:List UInt8→Bool} {l:List (List UInt8)} {x:List UInt8} (h:l.all E=true) (hx:E x=true):(l++[x]).all E=true:=by simp_all
theorem all_not {E:List UInt8→Bool} {l:List (List UInt8)} {x:List UInt8} (h:x∈l) (hx:E x=false):l.all E=false:=by
 rw [List.all_eq_false]
 exact ⟨x,h,by simp [hx]⟩
set_option maxHeartbeats 1000000 in
theorem spLast_core (cs:List Value) (a:Option Addr) (k cap:Nat) (ls:List (List UInt8)) (F t:Bool) (M:Nat) (E:List UInt8→Bool) (w:World) (hL:cs.length=33) (h15:cs[15]?=some (.slice a k cap)) (hk:ls.length=k) (hT:TxA w a cap ls) (hk2:k≤maxLen)
  (e1:decide ((M:Int)<(k:Int))=t) (e0:decide (M<k)=t)
  (KF:∀ w1,Below w.heap.size w w1→Calls Tryz.prog 58 #[.agg cs.toArray] w1 fun e w'=>e=.returned (.bool F)∧Below w1.heap.size w1 w')
  (KM:∀ w1,Calls Tryz.prog 59 #[.agg cs.toArray] w1 fun e w'=>e=.returned (.int .i64 (M:Int))∧Below w1.heap.size w1 w')
  (KE:∀ x w1,Below w.heap.size w w1→Calls Tryz.prog 60 #[.agg cs.toArray,.string (tx x)] w1 fun e w'=>e=.returned (.bool (E x))∧Below w1.heap.size w1 w') :
  Calls Tryz.prog 44 #[.agg cs.toArray] w fun e w'=>e=.returned (.bool (F&&(!t&&ls.all E)))∧Below w.heap.size w w':=by
 unfold maxLen at hk2
 have HX:=Lib.hid (Bx.new w 29 cs)
 have HB:=Lib.hid (up_alloc (Below.refl w.heap.size w) (.cells cs.toArray 29))
 have c15:=HX.out.cell 15 h15
 have HL:=Lib.hid hL;have HN:=Lib.hid hk
 have HA:=Lib.hid (hT.up HB.out)
 have HF:=Lib.hid KF;have HM:=Lib.hid KM;have HE:=Lib.hid KE
 clear KF KM KE h15 hL hk hT
 go_enter Tryz.func44,Tryz.ntmps44
 go_wp2_with fail
 obtain ⟨w1,hw1⟩:∃ w1,w.alloc (.cells cs.toArray 29)=w1:=⟨_,rfl⟩
 rw [hw1] at c15 HA HB HX ⊢
 clear hw1
 have HRG:=Lib.hid (later_range HX.out (by rw [HL.out];decide))
 have j15:=fun x:Later w1=>x.cell c15
 clear c15
 cases F
 ·clear e1 e0
  refine later_start (w:=w1) ?_
  intro x
  refine wp_region_later (by kernel_rfl) (by kernel_rfl) ?_
  repeat (first
   | (go_big_quiet_want;refine quiet_load_job _ rfl w.heap.size rfl cs HL.out HRG.out ?_;simp only [Act.put,List.setIfInBounds_toArray,List.set_cons_succ,List.set_cons_zero];go_big_quiet_on)
   | go_big_quiet_step ((go_at_call 58;with_reducible exact Later.call (HF.out _ (up_trans HB.out (Later.up _))))))
  refine wpQuiet_nil ?_
  rintro _ ⟨x2,rfl⟩
  have BB:=Lib.hid (up_trans HB.out x2.up)
  go_wp2
  go_ret
  exact ⟨rfl,BB.out⟩
 cases t
 ·refine later_start (w:=w1) ?_
  intro x
  refine wp_region_later (by kernel_rfl) (by kernel_rfl) ?_
  repeat (first
   | (go_big_quiet_want;refine quiet_load_job _ rfl w.heap.size rfl cs HL.out HRG.out ?_;simp only [Act.put,List.setIfInBounds_toArray,List.set_cons_succ,List.set_cons_zero];go_big_quiet_on)
   | go_big_quiet_step ((first | (go_at_call 58;with_reducible exact Later.call (HF.out _ (up_trans HB.out (Later.up _)))) | (go_at_call 59;with_reducible exact Later.call (HM.out _)))))
  refine wpQuiet_nil ?_
  rintro _ ⟨x2,rfl⟩
  have d15:=j15 x2
  have BB:=Lib.hid x2.up
  clear e1 e0
  go_wp2
  go_loopw [19] (fun i wr=>∃ j:Nat,j≤k∧i=.int .i64 (j:Int)∧Hid ((ls.take j).all E=true)∧∃ y:Later w1,wr=y.now) (fun i _=>k-(intOf i).toNat)
  case atStart=>exact ⟨0,by omega,by go_num,Lib.hid rfl,x2,rfl⟩
  case round =>
   obtain ⟨j,hj,rfl,HS,y,rfl⟩:=hrel
   by_cases hlt:j<k
   ·obtain ⟨z,hx⟩:∃ x,ls[j]?=some x:=⟨ls[j]'(by rw [HN.out];exact hlt),List.getElem?_eq_getElem _⟩
    obtain ⟨g,o,rfl,hc,-,-⟩:=HA.out.resolve_left (by rintro rfl;cases hx)
    have hcx:=y.cell (hc j z hx)
    have HXy:=Lib.hid (HX.out.later (by rw [HL.out];decide) y.up)
    have z0:(0:Int)≤(j:Int):=by omega
    have z3:(j:Int)<(k:Int):=by omega
    have htk:=Lib.hid (take_next hx)
    have KZ:=HE.out z
    have HZ:=Lib.hid (List.mem_of_getElem? hx)
    clear hx hc
    generalize hez:E z=ez at *
    generalize tx z=Z at *
    have HEZ:=Lib.hid hez;have HKZ:=Lib.hid KZ
    clear hez KZ
    go_wp2_with (refine wpList_load_job rfl _ rfl w.heap.size rfl cs HXy.out HL.out ?_;simp only [Act.put,List.setIfInBounds_toArray,List.set_cons_succ,List.set_cons_zero])
    refine (HKZ.out _ (up_trans HB.out y.up)).mono ?_
    rintro e w3 ⟨rfl,hb⟩
    obtain ⟨y2,rfl⟩:=Later.next hb
    clear hb
    cases ez
    ·go_wp2
     go_ret
     exact ⟨by rw [all_not HZ.out HEZ.out];rfl,up_trans HB.out y2.up⟩
    ·go_wp2
     go_roundw
     case rel=>exact ⟨j+1,by omega,by go_num,Lib.hid (by rw [htk.out];exact all_snoc HS.out HEZ.out),y2,rfl⟩
     case measure=>simp [intOf];omega
   ·obtain rfl:j=k:=by omega
    have hall:ls.take j=ls:=List.take_of_length_le (by rw [HN.out];omega)
    have HH:=Lib.hid (hall ▸ HS.out)
    clear hall
    go_wp2
    go_ret
    exact ⟨by rw [HH.out];rfl,up_trans HB.out y.up⟩
 ·refine later_start (w:=w1) ?_
  intro x
  refine wp_region_later (by kernel_rfl) (by kernel_rfl) ?_
  repeat (first
   | (go_big_quiet_want;refine quiet_load_job _ rfl w.heap.size rfl cs HL.out HRG.out ?_;simp only [Act.put,List.setIfInBounds_toArray,List.set_cons_succ,List.set_cons_zero];go_big_quiet_on)
   | go_big_quiet_step ((first | (go_at_call 58;with_reducible exact Later.call (HF.out _ (up_trans HB.out (Later.up _)))) | (go_at_call 59;with_reducible exact Later.call (HM.out _)))))
  refine wpQuiet_nil ?_
  rintro _ ⟨x2,rfl⟩
  have BB:=Lib.hid (up_trans HB.out x2.up)
  go_wp2
  go_ret
  exact ⟨rfl,BB.out⟩
theorem TxA.small {w:World} {a:Option Addr} {c:Nat} {ls:List (List UInt8)} (h:TxA w a c ls):ls.length≤maxLen:=by
 rcases h with rfl | ⟨g,o,e,h,h1,h2⟩
 ·simp [maxLen]
 ·omega
theorem spLast_any (cs:List Value) (j:Jb) (w:World) (h:JobA w cs j) (hf:WfF j) (hg:GoodM w) :
  Calls Tryz.prog 44 #[.agg cs.toArray] w fun e w'=>e=.returned (.bool (lastM j))∧Below w.heap.size w w':=by
 obtain ⟨a,c,a',c',h12,h13,h14,h15,hI,hT⟩:=h.cells
 have K:=spLast_core cs a' j.ls.length c' j.ls _ _ _ (endB (j.n 10) (panS j.f)) w h.length h15 rfl hT hT.small rfl (by rw [Bool.eq_iff_iff];simp)
  (fun w1 hb=>spFolds_any cs j w1 (h.up hb) hf) (fun w1=>spMost_any cs (j.n 10) w1 (h.num (k:=10) (by decide))) (fun x w1 hb=>spMay_any cs j x w1 (h.up hb) (hg.below hb))
 have e:(!(decide (((mostM (j.n 10):Nat):Int)<(j.ls.length:Int))))=decide (j.ls.length≤mostM (j.n 10)):=by rw [Bool.eq_iff_iff];simp
 rw [e] at K
 exact K
end Go.Proofs.YtbbjileignefbaaGreatDoor
namespace Go.Proofs.YtbbjileignefbaaGreatDoor
open Go.RowKit Go.Shelf
attribute [local go_sem] Oper.semAt_some
def namesL:List (List UInt8):=catS.map Prod.fst
end Go.Proofs.YtbbjileignefbaaGreatDoor
namespace Go.Proofs.YtbbjileignefbaaGreatDoor
open Go.RowKit
theorem seen_eq (c:UInt8):seenB c=(decide ((32:Int)≤(c.toNat:Int))&&decide ((c.toNat:Int)≤126)):=by
 unfold seenB
 rw [Bool.eq_iff_iff]
 simp
 omega
theorem refSeen_any (c:UInt8) (w:World):Calls Tryz.prog 94 #[.int .u8 (c.toNat:Int)] w fun e w'=>e=.returned (.bool (seenB c))∧w=w':=by
 rw [seen_eq]
 generalize (c.toNat:Int)=x at *
 obtain ⟨b1,h1⟩:∃ b,decide ((32:Int)≤x)=b:=⟨_,rfl⟩
 obtain ⟨b2,h2⟩:∃ b,decide (x≤(126:Int))=b:=⟨_,rfl⟩
 rw [h1,h2]
 cases b1<;>cases b2
 all_goals
  go_enter Tryz.func94,Tryz.ntmps94
  go_wp2
  go_ret
  exact ⟨rfl,rfl⟩
theorem toList_none (l:List UInt8):((tx l).toList==[])=decide (l=[]):=by rw [tx_toList,Bool.eq_iff_iff];simp
theorem oct92 (c:UInt8):((c.toNat:Int)==92)=(c==92):=oct_eq c 92
theorem oct34 (c:UInt8):((c.toNat:Int)==34)=(c==34):=oct_eq c 34
theorem oct35 (c:UInt8):((c.toNat:Int)==35)=(c==35):=oct_eq c 35
theorem oct_apart (c:UInt8):¬ ((c==92)=true∧(c==34)=true):=by
 rintro ⟨h1,h2⟩
 simp at h1 h2
 rw [h1] at h2
 exact absurd h2 (by decide)
def GivesF (F:Option (List (List UInt8))) (w:World) (e:Ending) (w':World):Prop:=∃ v,e=.returned (.tuple #[v,.bool F.isSome])∧TxS w' v (F.getD [])∧Below w.heap.size w w'
theorem ret_fields {v:Value} {F G:Option (List (List UInt8))} {b:Bool} (h:F=G) (hb:F.isSome=b):Ending.returned (.tuple #[v,.bool b])=.returned (.tuple #[v,.bool G.isSome]):=by rw [←h,hb]
def RefFieldsRel (s:ByteArray) (w:World) (F:Option (List (List UInt8))) (o p a b i:Value) (wr:World):Prop :=
 ∃ (k:Nat) (out:List (List UInt8)) (cur:List UInt8) (wi fr:Bool),k≤s.size∧cur.length≤k∧out.length≤k∧i=.int .i64 (k:Int)∧p=.string (tx cur)∧a=.bool wi∧b=.bool fr∧rowT wr w.heap.size o out∧Below w.heap.size w wr ∧
  (wi=false→fr=false)∧fieldsM (s.data.toList.drop k) out cur wi fr=F
theorem one_octet {s:ByteArray} {k:Nat} (h:k<s.size):s.extract k (k+1)=tx [s[k]]:=by
 rw [tx_extract,cur_octet (Nat.le_refl _) h,cur_none]
 rfl
theorem add_octet (cur:List UInt8) (c:UInt8):tx cur++tx [c]=tx (cur++[c]):=tx_append _ _
theorem slice_one {s:ByteArray} {k:Nat} (h:k<s.size) (hs:s.size≤999999) (w:World):(Instr.slice 9 (.string s) (some (.int .i64 (k:Int))) (some (.int .i64 ((k:Int)+1))) none).run Tryz.prog w=.ok (.string (tx [s[k]])) w:=by
 rw [run_slice_string_if w 9 s .i64 .i64 _ _ Tryz.underlying9,if_pos (by omega),if_pos (by omega),←one_octet h]
 simp
theorem oct32 (c:UInt8):((c.toNat:Int)==32)=(c==32):=oct_eq c 32
theorem oct9 (c:UInt8):((c.toNat:Int)==9)=(c==9):=oct_eq c 9
set_option maxRecDepth 100000 in
set_option maxHeartbeats 2000000 in
theorem refFields_any (s:ByteArray) (w:World) (hs:s.size≤999999) :
  Calls Tryz.prog 82 #[.string s] w (GivesF (fieldsL s.data.toList) w):=by
 obtain ⟨F,hF0⟩:∃ F,fieldsL s.data.toList=F:=⟨_,rfl⟩
 have HF0:=Lib.hid hF0
 rw [hF0]
 clear hF0
 go_enter Tryz.func82,Tryz.ntmps82
 go_wp2
 go_loopw [4,5,6,7,8] (fun o p a b i wr=>RefFieldsRel s w F o p a b i wr) (fun _ _ _ _ i _=>s.size-(intOf i).toNat)
 case atStart =>
  refine ⟨0,[],[],false,false,Nat.zero_le _,Nat.le_refl _,Nat.le_refl _,rfl,rfl,rfl,rfl,rowT_nil _ _,Below.refl _ _,fun _=>rfl,?_⟩
  rw [←HF0.out]
  rfl
 case round =>
  obtain ⟨k,out,cur,wi,fr,hk,hcur,ho,rfl,rfl,rfl,rfl,hrow,hb,hwf,hF⟩:=hrel
  have HR:=Lib.hid hrow;have HB:=Lib.hid hb;have HF:=Lib.hid hF;have HW:=Lib.hid hwf
  clear hrow hb hF hwf
  have eP:=toList_none cur
  have hPz:(tx cur).size≤999999:=by rw [tx_size];omega
  by_cases hlt:k<s.size
  ·have z1:(k:Int)<(s.size:Int):=by omega
   have DO:=Lib.hid (drop_octet hlt)
   have hsl:=slice_one hlt hs
   obtain ⟨c,hc⟩:∃ c,s[k]=c:=⟨_,rfl⟩
   rw [hc] at DO hsl
   have hx:((s[k].toNat:Nat):Int)=(c.toNat:Int):=by rw [hc]
   clear hc
   have hadd:=add_octet cur c
   have hqz:(tx [c]).size≤1:=by rw [tx_size];exact Nat.le_refl _
   have HX:=Lib.hid (rfl:tx (cur++[c])=tx (cur++[c]))
   obtain ⟨R,hR⟩:∃ R,tx (cur++[c])=R:=⟨_,rfl⟩
   rw [hR] at hadd
   have HRR:=Lib.hid hR
   obtain ⟨P,hP⟩:∃ P,tx cur=P:=⟨_,rfl⟩
   have HPP:=Lib.hid hP
   rw [hP] at hadd hPz eP
   rw [hP]
   clear hP hR HX
   generalize tx [c]=q at *
   have KS:=fun w=>refSeen_any c w
   have e35:=oct35 c;have e34:=oct34 c;have e92:=oct92 c;have e32:=oct32 c;have e9:=oct9 c
   generalize (c.toNat:Int)=x at *
   cases wi
   ·obtain rfl:=HW.out rfl
    cases hbl:blankB c
    ·have hbl2:=hbl
     unfold blankB at hbl2
     rw [Bool.or_eq_false_iff] at hbl2
     rw [hbl2.1] at e32;rw [hbl2.2] at e9
     by_cases h35:c=35
     ·have HH:=Lib.hid HF.out
      rw [DO.out,h35,f_stop] at HH
      have e1:(x==35)=true:=by rw [e35,h35];rfl
      by_cases hcn:cur=[]
      ·rw [decide_eq_true hcn] at eP
       rw [hcn,addF_nil] at HH
       clear KS e35 e34 e92 hbl hbl2 hcn h35
       go_wp2
       go_ret2
       refine ⟨_,ret_fields HH.out rfl,?_,HB.out⟩
       rw [←HH.out]
       exact HR.out.texts
      ·rw [decide_eq_false hcn] at eP
       rw [addF_some hcn] at HH
       clear KS e35 e34 e92 hbl hbl2 hcn h35
       go_wp2_with (at_builtin;refine wpList_append_text rfl _ _ rfl w.heap.size _ out rfl HR.out ?c1 _ cur HPP.out.symm rfl ?c2 ?_)
       case c1=>exact HB.out.size
       case c2=>omega
       intro v1 w2 h1 hb2
       have H1:=Lib.hid h1;have HB2:=Lib.hid hb2
       clear h1 hb2
       go_wp2
       go_ret2
       refine ⟨_,ret_fields HH.out rfl,?_,HB.out.trans HB2.out⟩
       rw [←HH.out]
       exact H1.out.texts
     ·have e1:(x==35)=false:=by rw [e35];simpa using h35
      cases hse:seenB c
      ·rw [hse] at KS
       have HKS:=Lib.hid KS
       have HH:=Lib.hid HF.out
       rw [DO.out,f_out_bad _ _ _ _ hbl h35 hse] at HH
       clear KS e35 e34 e92 hbl hbl2 hse
       go_wp2_with (go_at_call 94;refine (HKS.out _).mono ?_;rintro e w' ⟨rfl,rfl⟩)
       go_ret2
       refine ⟨_,ret_fields HH.out rfl,?_,HB.out⟩
       rw [←HH.out]
       exact TxS.nil _
      ·rw [hse] at KS
       have HKS:=Lib.hid KS
       have HH:=Lib.hid HF.out
       rw [DO.out,f_out _ _ _ _ hbl h35 hse] at HH
       generalize (c==34)=b34 at *
       clear KS e35 e92 hbl hbl2 hse
       go_wp2_with (go_at_call 94;refine (HKS.out _).mono ?_;rintro e w' ⟨rfl,rfl⟩)
       go_roundw
       case rel=>exact ⟨k+1,out,cur++[c],b34,false,by omega,by simp;omega,by omega,by go_num,by rw [HRR.out],rfl,rfl,HR.out,HB.out,fun _=>rfl,HH.out⟩
       case measure=>simp [intOf];omega
    ·have HH:=Lib.hid HF.out
     rw [DO.out,f_blank _ _ _ _ hbl] at HH
     unfold blankB at hbl
     generalize (c==32)=b32 at *
     generalize (c==9)=b9 at *
     clear KS e35 e34 e92
     by_cases hcn:cur=[]
     ·rw [decide_eq_true hcn] at eP
      rw [hcn,addF_nil] at HH
      clear hcn
      cases b32<;>cases b9
      ·cases hbl
      all_goals
       go_wp2
       go_roundw
       case rel=>exact ⟨k+1,out,[],false,false,by omega,by simp,by omega,by go_num,rfl,rfl,rfl,HR.out,HB.out,fun _=>rfl,HH.out⟩
       case measure=>simp [intOf];omega
     ·rw [decide_eq_false hcn] at eP
      rw [addF_some hcn] at HH
      clear hcn
      cases b32<;>cases b9
      ·cases hbl
      all_goals
       go_wp2_with (at_builtin;refine wpList_append_text rfl _ _ rfl w.heap.size _ out rfl HR.out HB.out.size _ cur HPP.out.symm rfl (by omega) ?_)
       intro v1 w2 h1 hb2
       have H1:=Lib.hid h1;have HB2:=Lib.hid hb2
       clear h1 hb2
       go_wp2
       go_roundw
       case rel=>exact ⟨k+1,out++[cur],[],false,false,by omega,by simp,by simp;omega,by go_num,rfl,rfl,rfl,H1.out,HB.out.trans HB2.out,fun _=>rfl,HH.out⟩
       case measure=>simp [intOf];omega
   ·cases hse:seenB c
    ·rw [hse] at KS
     have HKS:=Lib.hid KS
     have HH:=Lib.hid HF.out
     rw [DO.out,f_in_bad _ _ _ _ hse] at HH
     clear KS e35 e34 e92 e32 e9 hse
     go_wp2_with (go_at_call 94;refine (HKS.out _).mono ?_;rintro e w' ⟨rfl,rfl⟩)
     go_ret2
     refine ⟨_,ret_fields HH.out rfl,?_,HB.out⟩
     rw [←HH.out]
     exact TxS.nil _
    ·rw [hse] at KS
     have HKS:=Lib.hid KS
     have HH:=Lib.hid HF.out
     rw [DO.out,f_in _ _ _ _ hse,show (c != 34)=!(c==34) from rfl] at HH
     have hap:=oct_apart c
     generalize (c==34)=b34 at *
     generalize (c==92)=b92 at *
     clear KS e35 e32 e9 hse
     have n34:(x != 34)=!b34:=by rw [←e34];rfl
     cases fr
     ·cases b34<;>cases b92
      ·go_wp2_with (go_at_call 94;refine (HKS.out _).mono ?_;rintro e w' ⟨rfl,rfl⟩)
       go_roundw
       case rel=>exact ⟨k+1,out,cur++[c],true,false,by omega,by simp;omega,by omega,by go_num,by rw [HRR.out],rfl,rfl,HR.out,HB.out,fun _=>rfl,HH.out⟩
       case measure=>simp [intOf];omega
      ·go_wp2_with (go_at_call 94;refine (HKS.out _).mono ?_;rintro e w' ⟨rfl,rfl⟩)
       go_roundw
       case rel=>exact ⟨k+1,out,cur++[c],true,true,by omega,by simp;omega,by omega,by go_num,by rw [HRR.out],rfl,rfl,HR.out,HB.out,(fun h=>by cases h),HH.out⟩
       case measure=>simp [intOf];omega
      ·go_wp2_with (go_at_call 94;refine (HKS.out _).mono ?_;rintro e w' ⟨rfl,rfl⟩)
       go_roundw
       case rel=>exact ⟨k+1,out,cur++[c],false,false,by omega,by simp;omega,by omega,by go_num,by rw [HRR.out],rfl,rfl,HR.out,HB.out,fun _=>rfl,HH.out⟩
       case measure=>simp [intOf];omega
      ·exact absurd ⟨rfl,rfl⟩ hap
     ·clear e34 e92 hap n34
      go_wp2_with (go_at_call 94;refine (HKS.out _).mono ?_;rintro e w' ⟨rfl,rfl⟩)
      go_roundw
      case rel=>exact ⟨k+1,out,cur++[c],true,false,by omega,by simp;omega,by omega,by go_num,by rw [HRR.out],rfl,rfl,HR.out,HB.out,fun _=>rfl,HH.out⟩
      case measure=>simp [intOf];omega
  ·obtain rfl:k=s.size:=by omega
   have HH:=Lib.hid HF.out
   rw [List.drop_of_length_le (by rw [size_data];exact Nat.le_refl _)] at HH
   by_cases hcn:cur=[]
   ·rw [decide_eq_true hcn] at eP
    have HC:=Lib.hid hcn
    clear hcn
    generalize tx cur=P at *
    cases wi
    ·rw [f_end,HC.out,addF_nil] at HH
     go_wp2
     go_ret2
     refine ⟨_,ret_fields HH.out rfl,?_,HB.out⟩
     rw [←HH.out]
     exact HR.out.texts
    ·rw [f_open] at HH
     go_wp2
     go_ret2
     refine ⟨_,ret_fields HH.out rfl,?_,HB.out⟩
     rw [←HH.out]
     exact TxS.nil _
   ·rw [decide_eq_false hcn] at eP
    obtain ⟨P,hP⟩:∃ P,tx cur=P:=⟨_,rfl⟩
    have HPP:=Lib.hid hP
    have HC:=Lib.hid hcn
    rw [hP] at eP hPz
    rw [hP]
    clear hP hcn
    cases wi
    ·rw [f_end,addF_some HC.out] at HH
     go_wp2_with (at_builtin;refine wpList_append_text rfl _ _ rfl w.heap.size _ out rfl HR.out HB.out.size _ cur HPP.out.symm rfl (by omega) ?_)
     intro v1 w2 h1 hb2
     have H1:=Lib.hid h1;have HB2:=Lib.hid hb2
     clear h1 hb2
     go_wp2
     go_ret2
     refine ⟨_,ret_fields HH.out rfl,?_,HB.out.trans HB2.out⟩
     rw [←HH.out]
     exact H1.out.texts
    ·rw [f_open] at HH
     go_wp2_with (at_builtin;refine wpList_append_text rfl _ _ rfl w.heap.size _ out rfl HR.out HB.out.size _ cur HPP.out.symm rfl (by omega) ?_)
     intro v1 w2 h1 hb2
     have H1:=Lib.hid h1;have HB2:=Lib.hid hb2
     clear h1 hb2
     go_wp2
     go_ret2
     refine ⟨_,ret_fields HH.out rfl,?_,HB.out.trans HB2.out⟩
     rw [←HH.out]
     exact TxS.nil _
end Go.Proofs.YtbbjileignefbaaGreatDoor
namespace Go.Proofs.YtbbjileignefbaaGreatDoor
open Go.RowKit DecMath
theorem refStep_short (t:ByteArray) (w:World) (h:t.size<2) :
  Calls Tryz.prog 68 #[.string t] w fun e w'=>e=.returned (.tuple #[.agg #[.int .i64 0,.int .i64 0,.bool false],.bool false])∧Below w.heap.size w w':=by
 have z1:(t.size:Int)<2:=by omega
 go_enter Tryz.func68,Tryz.ntmps68
 go_wp2
 refine bodyPost_ret (v:=.tuple #[.agg #[.int .i64 0,.int .i64 0,.bool false],.bool false]) (by simp [results,Tryz.results68,go_sem]) rfl ⟨rfl,?_⟩
 repeat (first | (with_reducible exact Below.refl _ _) | (with_reducible apply up_alloc) | (with_reducible refine up_set ?_ (by simp only;omega) _))
theorem lr0:(((⟨#[76,82,66,84]⟩:ByteArray)[0].toNat:Nat):Int)=76:=rfl
theorem lr1:(((⟨#[76,82,66,84]⟩:ByteArray)[1].toNat:Nat):Int)=82:=rfl
theorem lr2:(((⟨#[76,82,66,84]⟩:ByteArray)[2].toNat:Nat):Int)=66:=rfl
theorem lr3:(((⟨#[76,82,66,84]⟩:ByteArray)[3].toNat:Nat):Int)=84:=rfl
set_option maxRecDepth 100000 in
set_option maxHeartbeats 2000000 in
theorem refStep_core (t r g:ByteArray) (x y s n:Int) (k f u:Bool) (w:World) (t0:2≤t.size) (t1:t.size≤9223372036854775807) (hx:((t[0].toNat:Nat):Int)=x)
  (hs:((x==76)=true∧(x==82)=false∧(x==66)=false∧(x==84)=false∧s=1)∨((x==76)=false∧(x==82)=true∧(x==66)=false∧(x==84)=false∧s=2)∨((x==76)=false∧(x==82)=false∧(x==66)=true∧(x==84)=false∧s=3)∨((x==76)=false∧(x==82)=false∧(x==66)=false∧(x==84)=true∧s=4)∨((x==76)=false∧(x==82)=false∧(x==66)=false∧(x==84)=false∧s=0))
  (hr:t.extract 1 t.size=r) (r0:1≤r.size) (r1:r.size≤9223372036854775807) (F:Sp×Bool) (hF:(if k=true∧f=true then ((⟨s,n,u⟩:Sp),true) else (⟨0,0,false⟩,false))=F)
  (hu:((r[r.size-1].toNat:Nat):Int)=y) (hy:(y==117)=u) (hg:(u=true∧r.extract 0 (r.size-1)=g)∨(u=false∧r=g))
  (KD:∀ w,Calls Tryz.prog 67 #[.string g] w fun e w'=>e=.returned (.tuple #[.int .i64 n,.bool k])∧w=w')
  (KR:∀ w,Calls Tryz.prog 81 #[.agg #[.int .i64 s,.int .i64 n,.bool u]] w fun e w'=>e=.returned (.bool f)∧Below w.heap.size w w') :
  Calls Tryz.prog 68 #[.string t] w fun e w'=>e=.returned (.tuple #[.agg #[.int .i64 F.1.d,.int .i64 F.1.n,.bool F.1.u],.bool F.2])∧Below w.heap.size w w':=by
 have HD:=Lib.hid KD;have HR:=Lib.hid KR;have HF:=Lib.hid hF
 clear KD KR hF
 have z1:decide ((t.size:Int)<2)=false:=by simp;omega
 have c0:=lr0;have c1:=lr1;have c2:=lr2;have c3:=lr3
 rcases hg with ⟨rfl,hg⟩ | ⟨rfl,rfl⟩
 all_goals
  rcases hs with ⟨b1,b2,b3,b4,rfl⟩ | ⟨b1,b2,b3,b4,rfl⟩ | ⟨b1,b2,b3,b4,rfl⟩ | ⟨b1,b2,b3,b4,rfl⟩ | ⟨b1,b2,b3,b4,rfl⟩
 all_goals
  as_aux_lemma =>
   go_enter Tryz.func68,Tryz.ntmps68
   go_wp2
   refine wp_loop_rounds 5 ?_
   rw [rounds_succ];go_wp2;go_region;go_wp2
   rw [rounds_succ];go_wp2;go_region;go_wp2
   rw [rounds_succ];go_wp2;go_region;go_wp2
   rw [rounds_succ];go_wp2;go_region;go_wp2
   rw [rounds_succ];go_wp2_with fail
   refine (HD.out _).mono ?_
   rintro e w' ⟨rfl,rfl⟩
   cases k
   ·go_wp2
    refine bodyPost_ret (v:=.tuple #[.agg #[.int .i64 0,.int .i64 0,.bool false],.bool false]) (by simp [results,Tryz.results68,go_sem]) rfl ⟨retS (p:=⟨0,0,false⟩) (by rw [←HF.out,if_neg (by simp)]),?_⟩
    repeat (first | (with_reducible exact Below.refl _ _) | (with_reducible apply up_drew) | (with_reducible apply up_alloc) | (with_reducible refine up_set ?_ (by simp only;omega) _))
   ·go_wp2_with fail
    refine (HR.out _).mono ?_
    rintro e w2 ⟨rfl,hb⟩
    have A0:=(((((((Bx.new w 58 [.int .i64 0,.int .i64 0,.bool false]).alloc _).drew).drew).drew).drew).up hb)
    have A1:=((((((Bx.new (w.alloc _) 58 [.int .i64 _,.int .i64 n,.bool _]).drew).drew).drew).drew).up hb)
    simp only [World.size_alloc] at A1
    have B1:=up_trans (up_drew (up_drew (up_drew (up_drew (up_alloc (up_alloc (Below.refl _ w) _) _))))) hb
    have HB:=Lib.hid B1
    have m0:=A0.cell 0 rfl;have m1:=A0.cell 1 rfl;have m2:=A0.cell 2 rfl;have mf:=A0.free
    have n0:=A1.cell 0 rfl;have n1:=A1.cell 1 rfl;have n2:=A1.cell 2 rfl;have nf:=A1.free
    clear hb B1 A0 A1
    cases f
    ·go_wp2
     refine bodyPost_ret (v:=.tuple #[.agg #[.int .i64 0,.int .i64 0,.bool false],.bool false]) (by simp [results,Tryz.results68,go_sem,m0,m1,m2]) rfl ⟨retS (p:=⟨0,0,false⟩) (by rw [←HF.out,if_neg (by simp)]),?_⟩
     have B4:=HB.out
     repeat (first | (with_reducible exact B4) | (with_reducible refine up_set ?_ (by simp only;omega) _))
    ·go_wp2
     have e:=HF.out
     simp only [and_self,if_true] at e
     subst e
     refine bodyPost_ret ?_ rfl ⟨rfl,?_⟩
     ·simp [results,Tryz.results68,go_sem,m0,m1,m2]
     have B4:=HB.out
     repeat (first | (with_reducible exact B4) | (with_reducible refine up_set ?_ (by simp only;omega) _))
theorem numIn (l:List UInt8) (d:Int) (d0:0≤d) (d1:d≤4):((numOf l).2=true∧rightB d (numOf l).1=true)↔(d≠0∧(inOf l 1 64).2=true):=by
 unfold inOf
 split
 ·rename_i h
  constructor
  ·rintro ⟨h1,h2⟩
   have:=rightB_true h2
   exact ⟨by omega,h1⟩
  ·rintro ⟨h1,h2⟩
   exact ⟨h2,by simp [rightB];omega⟩
 ·rename_i h
  constructor
  ·rintro ⟨h1,h2⟩
   have:=rightB_true h2
   exact absurd ⟨h1,by omega,by omega⟩ h
  ·rintro ⟨h1,h2⟩
   cases h2
theorem inOf_num {l:List UInt8} {lo hi:Int} (h:(inOf l lo hi).2=true):(inOf l lo hi).1=(numOf l).1:=by
 unfold inOf at h ⊢
 split at h
 ·rename_i h2;rw [if_pos h2]
 ·cases h
theorem sideO_cases (c:UInt8):((((c.toNat:Nat):Int)==76)=true∧(((c.toNat:Nat):Int)==82)=false∧(((c.toNat:Nat):Int)==66)=false∧(((c.toNat:Nat):Int)==84)=false∧sideO c=1)∨((((c.toNat:Nat):Int)==76)=false∧(((c.toNat:Nat):Int)==82)=true∧(((c.toNat:Nat):Int)==66)=false∧(((c.toNat:Nat):Int)==84)=false∧sideO c=2)∨((((c.toNat:Nat):Int)==76)=false∧(((c.toNat:Nat):Int)==82)=false∧(((c.toNat:Nat):Int)==66)=true∧(((c.toNat:Nat):Int)==84)=false∧sideO c=3)∨((((c.toNat:Nat):Int)==76)=false∧(((c.toNat:Nat):Int)==82)=false∧(((c.toNat:Nat):Int)==66)=false∧(((c.toNat:Nat):Int)==84)=true∧sideO c=4)∨((((c.toNat:Nat):Int)==76)=false∧(((c.toNat:Nat):Int)==82)=false∧(((c.toNat:Nat):Int)==66)=false∧(((c.toNat:Nat):Int)==84)=false∧sideO c=0):=by
 have e1:=oct_eq c 76;have e2:=oct_eq c 82;have e3:=oct_eq c 66;have e4:=oct_eq c 84
 simp only [show (((76:UInt8).toNat:Nat):Int)=76 from rfl,show (((82:UInt8).toNat:Nat):Int)=82 from rfl,show (((66:UInt8).toNat:Nat):Int)=66 from rfl,show (((84:UInt8).toNat:Nat):Int)=84 from rfl] at e1 e2 e3 e4
 rw [e1,e2,e3,e4]
 by_cases h1:c=76
 ·subst h1;left;decide
 by_cases h2:c=82
 ·subst h2;right;left;decide
 by_cases h3:c=66
 ·subst h3;right;right;left;decide
 by_cases h4:c=84
 ·subst h4;right;right;right;left;decide
 right;right;right;right
 refine ⟨by simpa using h1,by simpa using h2,by simpa using h3,by simpa using h4,?_⟩
 unfold sideO
 rw [if_neg h1,if_neg h2,if_neg h3,if_neg h4]
theorem getS_short (l:List UInt8) (h:l.length<2):getS l=(⟨0,0,false⟩,false):=by
 match l,h with
 | [],_=>rfl
 | [c],_ =>
  have:(inOf (stripU []).1 1 64).2=false:=by
   unfold inOf stripU
   simp only [List.getLast?_nil,reduceCtorEq,if_false]
   rw [numOf_len [] (by simp)]
   rfl
  simp [getS,this]
theorem last_octet (r:ByteArray) (h:1≤r.size):r.data.toList.getLast?=some (r[r.size-1]'(by omega)):=by
 rw [List.getLast?_eq_getElem?,size_data,List.getElem?_eq_getElem (by rw [size_data];omega)]
 rfl
theorem refStepGet_any (t:ByteArray) (w:World) (ht:t.size≤9223372036854775807) :
  Calls Tryz.prog 68 #[.string t] w fun e w'=>e=.returned (.tuple #[.agg #[.int .i64 (getS t.data.toList).1.d,.int .i64 (getS t.data.toList).1.n,.bool (getS t.data.toList).1.u],.bool (getS t.data.toList).2])∧Below w.heap.size w w':=by
 by_cases h2:t.size<2
 ·rw [getS_short _ (by rw [size_data];exact h2)]
  exact refStep_short t w h2
 ·obtain ⟨c,r,hl⟩:∃ c r,t.data.toList=c :: r:=by
   cases h:t.data.toList with
   | nil=>have:=size_data t;rw [h] at this;simp at this;omega
   | cons c r=>exact ⟨c,r,rfl⟩
  obtain rfl:t=tx (c :: r):=by rw [←hl,tx_data]
  rw [tx_size] at h2 ht
  simp only [List.length_cons] at h2 ht
  have hc:(tx (c :: r))[0]'(by rw [tx_size];simp)=c:=rfl
  have hlast:=last_octet (tx r) (by rw [tx_size];omega)
  rw [data_tx] at hlast
  have hb:=sideO_bounds c
  refine refStep_core (tx (c :: r)) (tx r) (tx (stripU r).1) (((tx (c :: r))[0]'(by rw [tx_size];simp)).toNat:Nat) _ (sideO c) (numOf (stripU r).1).1 (numOf (stripU r).1).2 (rightB (sideO c) (numOf (stripU r).1).1) (stripU r).2 w (by rw [tx_size,List.length_cons];omega) (by rw [tx_size,List.length_cons];omega) rfl (by rw [hc];exact sideO_cases c) (by rw [tx_extract,tx_size,data_tx];simp) (by rw [tx_size];omega) (by rw [tx_size];omega) _ ?_ rfl ?_ ?_ (fun w=>?_) (fun w=>refRight_any _ _ _ w)
  ·rw [data_tx]
   simp only [getS]
   have hn:=numIn (stripU r).1 (sideO c) hb.1 hb.2
   by_cases h:sideO c≠0∧(inOf (stripU r).1 1 64).2=true
   ·rw [if_pos h,if_pos (hn.2 h),inOf_num h.2]
   ·rw [if_neg h,if_neg (fun e=>h (hn.1 e))]
  ·have e:=oct_eq ((tx r)[(tx r).size-1]'(by rw [tx_size];omega)) 117
   simp only [show (((117:UInt8).toNat:Nat):Int)=117 from rfl] at e
   rw [e]
   unfold stripU
   rw [hlast]
   split
   ·rename_i h;simpa using h
   ·rename_i h;simpa using h
  ·unfold stripU
   split
   ·left
    refine ⟨rfl,?_⟩
    rw [tx_extract,tx_size,data_tx,List.drop_zero,List.dropLast_eq_take]
   ·right;exact ⟨rfl,rfl⟩
  ·have:=refGet_any (tx (stripU r).1) w (by
    have:(stripU r).1.length≤r.length:=by
     unfold stripU
     split
     ·simp
     ·exact Nat.le_refl _
    rw [tx_size];omega)
   rw [data_tx] at this
   exact this
end Go.Proofs.YtbbjileignefbaaGreatDoor
