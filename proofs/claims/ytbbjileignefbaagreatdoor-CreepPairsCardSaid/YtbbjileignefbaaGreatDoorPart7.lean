/- Part 7 of the texts that the proofs of this seat share: UnfoldAfter, UnfoldMath, UnfoldSheet. -/
import Derived.Test.YtbbjileignefbaaGreatDoorPart5
import Derived.Test.YtbbjileignefbaaGreatDoorPart6
import Derived.Test.YtbbjileignefbaaGreatDoorPart4
import Derived.Test.YtbbjileignefbaaGreatDoorPart1
set_option linter.unusedVariables false
namespace Go.Proofs.YtbbjileignefbaaGreatDoor
open Go.RowKit Go.Shelf
attribute [local go_sem] Oper.semAt_some
theorem run_store_func {P:Program} {w:World} {a:Addr} {m:Mode} (f:Fn) (x y:Array Value):(store a (.func f x y) m).run P w=stored P w a (.func f x y) m:=run_store P w a _ m rfl
attribute [local go_sem] run_store_func
def stepS (under up:Bool) (t h:Nat) (S:Nat→List Pc):Nat→List Pc :=
 putS (putS S t ((S t).reverse.map (flipP up))) h (if under=true then S h++(S t).reverse.map (flipP up) else (S t).reverse.map (flipP up)++S h)
def runS {m:Nat} (under up:Bool) (tb hb:Ix m→Nat) (pre:List (Ix m)) (S:Nat→List Pc):Nat→List Pc:=pre.foldl (fun S k=>stepS under up (tb k) (hb k) S) S
theorem runS_snoc {m:Nat} (under up:Bool) (tb hb:Ix m→Nat) (pre:List (Ix m)) (k:Ix m) (S:Nat→List Pc):runS under up tb hb (pre++[k]) S=stepS under up (tb k) (hb k) (runS under up tb hb pre S):=by simp [runS]
theorem stepS_len {under up:Bool} {t h:Nat} {S:Nat→List Pc} (hne:t≠h):(stepS under up t h S t).length=(S t).length∧(stepS under up t h S h).length=(S h).length+(S t).length:=by
 unfold stepS
 rw [putS_ne hne,putS_at,putS_at]
 refine ⟨by simp,?_⟩
 cases under<;>simp<;>omega
theorem stepS_far {under up:Bool} {t h D:Nat} {S:Nat→List Pc} (h1:D≠t) (h2:D≠h):stepS under up t h S D=S D:=by unfold stepS;rw [putS_ne h2,putS_ne h1]
theorem runS_len {m:Nat} {under up:Bool} {tb hb:Ix m→Nat} {S:Nat→List Pc} {B:Nat} (hap:∀ k j,tb k≠hb j) (ht:∀ k,(S (tb k)).length≤B) (hh:∀ k,(S (hb k)).length≤B) (n:Nat):∀ pre:List (Ix m),pre.length=n→(∀ k,(runS under up tb hb pre S (tb k)).length≤B)∧∀ k,(runS under up tb hb pre S (hb k)).length≤B*(n+1):=by
 induction n with
 | zero =>
  intro pre h
  obtain rfl:pre=[]:=List.eq_nil_of_length_eq_zero h
  exact ⟨ht,fun k=>by have:=hh k;simpa [runS] using this⟩
 | succ n ih =>
  intro pre h
  obtain ⟨pre,x,rfl⟩:∃ p x,pre=p++[x]:=⟨pre.dropLast,pre.getLast (by rintro rfl;simp at h),(List.dropLast_concat_getLast _).symm⟩
  obtain ⟨h1,h2⟩:=ih pre (by simpa using h)
  rw [runS_snoc]
  generalize runS under up tb hb pre S=S' at *
  obtain ⟨l1,l2⟩:=stepS_len (under:=under) (up:=up) (S:=S') (hap x x)
  have hB:B*(n+1)+B=B*(n+1+1):=by rw [Nat.mul_add B (n+1) 1,Nat.mul_one]
  refine ⟨fun k=>?_,fun k=>?_⟩
  ·by_cases e:tb k=tb x
   ·rw [e,l1];exact h1 x
   ·rw [stepS_far e (hap k x)];exact h1 k
  ·by_cases e:hb k=hb x
   ·rw [e,l2];have:=h1 x;have:=h2 x;omega
   ·rw [stepS_far (fun e'=>hap x k e'.symm) e];have:=h2 k;omega
theorem loop_keep {W W1:World} {base b0 b1 D:Nat} {M:Nat→Prop} {R:Nat→Nat} {S:Nat→List Pc} {l:List Pc} (hD:Decks W base M R S) (ht:M D) (hlow:∀ D,M D→D<b0) (hR:∀ D,M D→R D<b0∨b1≤R D) (hb1:b1≤W.heap.size) (hm:MadeP base W D (R D) l W1) (hl:0<l.length) :
  ∃ R1,Decks W1 base M R1 (putS S D l)∧(∀ D,M D→R1 D<b0∨b1≤R1 D)∧(∀ k,b0≤k→k<b1→W1.heap[k]?=W.heap[k]?)∧Below base W W1∧KeepsOthers W W1∧KeepS NoS W W1∧b1≤W1.heap.size:=by
 have k:=hD.dk D ht
 obtain ⟨R1,d1,r1,b⟩:=hD.made ht hm hl
 have hbase:base≤W.heap.size:=Nat.le_of_lt (Nat.lt_of_le_of_lt k.low k.ltD)
 obtain ⟨x,hx⟩:=k.cellsD
 obtain ⟨y,hy⟩:=k.cellsR
 refine ⟨R1,d1,fun E hM=>?_,fun j j0 j1=>b.block j (by omega) (by have:=hlow D ht;omega) (by have:=hR D ht;omega),b.below hbase k.low k.ltR.1,b.others ⟨_,_,hx⟩ ⟨_,_,hy⟩,b.keepS k,Nat.le_trans hb1 b.size⟩
 rcases r1 E hM with e | e
 ·rw [e];exact hR E hM
 ·exact .inr (Nat.le_trans hb1 e)
def LoopI (w W0:World) (base b0 b1:Nat) (M:Nat→Prop) (S:Nat→List Pc) (W:World):Prop :=
 (∃ R,Decks W base M R S∧∀ D,M D→R D<b0∨b1≤R D)∧(∀ k,b0≤k→k<b1→W.heap[k]?=W0.heap[k]?)∧b1≤W.heap.size∧Below base w W
theorem loopI_own {β:Type} {w W0:World} {base b0 b1:Nat} {M:Nat→Prop} (f:β→Nat→List Pc) (hbw:base≤w.heap.size) (hb:base≤b1):OwnFrom b1 (fun s W=>LoopI w W0 base b0 b1 M (f s) W):=by
 rintro s X Y row ⟨⟨R,h1,h2⟩,h3,h4,h5⟩ hg hr
 refine ⟨⟨R,h1.kept hg (fun r e=>(hr r e).2),h2⟩,fun k k0 k1=>(hg.block k (by omega) (fun e=>?_)).trans (h3 k k0 k1),Nat.le_trans h4 hg.size,h5.grown hg (Nat.le_trans hbw h5.size) (fun r e=>Nat.le_trans hb (hr r e).1)⟩
 have:=(hr k e.symm).1
 omega
theorem LoopI.alloc {w W0:World} {base b0 b1:Nat} {M:Nat→Prop} {S:Nat→List Pc} {W:World} (h:LoopI w W0 base b0 b1 M S W) (hbw:base≤w.heap.size) (o:Obj):LoopI w W0 base b0 b1 M S (W.alloc o):=by
 obtain ⟨⟨R,h1,h2⟩,h3,h4,h5⟩:=h
 exact ⟨⟨R,h1.up (up_alloc (Below.refl _ _) _),h2⟩,fun k k0 k1=>(Below.heap_alloc _ _ _ (by omega)).trans (h3 k k0 k1),by simp;omega,h5.alloc (Nat.le_trans hbw h5.size) _⟩
set_option maxRecDepth 100000 in
set_option maxHeartbeats 4000000 in
theorem after_one {w:World} {base G:Nat} {c:Int} {L:List Ptr} (n:Int) (u:Bool) (K:Cut) (F LQ:List Ptr) (tb hb:Ix F.length→Nat) {M:Nat→Prop} {R:Nat→Nat} {S:Nat→List Pc}
  (KP:∀ w',Below w.heap.size w w'→Calls Tryz.prog 138 #[.pointer (some ⟨G,0,none⟩),.agg #[.int .i64 1,.int .i64 n,.bool u]] w' (PartedP w' c L K))
  (hF0:wantMs true K.fc K.fr (wantPs c K.fx K.fy K.fc K.fr L)=F) (hQ0:wantPs c K.rx K.ry K.rc K.rr L=LQ) (hD:Decks w base M R S) (hbase:base≤w.heap.size)
  (hT:∀ k:Ix F.length,F[k.1]'k.2=ptrD (tb k)∧M (tb k)) (hx:0≤K.x∧K.x≤64∧0≤K.y∧K.y≤64)
  (hH:∀ k:Ix F.length,hasB K.rc K.rr (K.x+(k.1:Int).tmod K.fc) (K.y+(k.1:Int).tdiv K.fc)=true∧LQ[at1 K.rc (K.x+(k.1:Int).tmod K.fc) (K.y+(k.1:Int).tdiv K.fc)]?=some (ptrD (hb k))∧M (hb k))
  (hap:∀ k j,tb k≠hb j) (hlen:∀ D,M D→(S D).length≤64) :
  Calls Tryz.prog 120 #[.pointer (some ⟨G,0,none⟩),.agg #[.int .i64 1,.int .i64 n,.bool u]] w fun e w'=>∃ Q QA R',e=.returned (.pointer (some ⟨Q,0,none⟩))∧Gs w' Q QA K.rc K.rr LQ∧Decks w' base M R' (runS u true tb hb (ixs F.length F.length) S)∧w.heap.size≤Q∧w.heap.size≤QA∧Below base w w':=by
 have HP:=Lib.hid KP;have HD:=Lib.hid hD;have HT:=Lib.hid hT;have HH:=Lib.hid hH;have HA:=Lib.hid hap;have HLn:=Lib.hid hlen;have HF0:=Lib.hid hF0;have HQ0:=Lib.hid hQ0
 clear KP hD hT hH hap hlen hF0 hQ0
 have xF:=((Bx.new w 58 [.int .i64 1,.int .i64 n,.bool u]).alloc (.cells #[.bool true] 4)).alloc (.cells #[.func (.func 137) #[] #[.pointer (some ⟨w.heap.size+1,0,none⟩)]] 168)
 have xU:=(Boxed.new (w.alloc (.cells #[.int .i64 1,.int .i64 n,.bool u] 58)) 4 (.bool true)).alloc (.cells #[.func (.func 137) #[] #[.pointer (some ⟨w.heap.size+1,0,none⟩)]] 168)
 have xT:=Boxed.new ((w.alloc (.cells #[.int .i64 1,.int .i64 n,.bool u] 58)).alloc (.cells #[.bool true] 4)) 168 (.func (.func 137) #[] #[.pointer (some ⟨w.heap.size+1,0,none⟩)])
 have hb0:Below w.heap.size w (((w.alloc (.cells #[.int .i64 1,.int .i64 n,.bool u] 58)).alloc (.cells #[.bool true] 4)).alloc (.cells #[.func (.func 137) #[] #[.pointer (some ⟨w.heap.size+1,0,none⟩)]] 168)):=up_alloc (up_alloc (up_alloc (Below.refl _ _) _) _) _
 have hs0:(((w.alloc (.cells #[.int .i64 1,.int .i64 n,.bool u] 58)).alloc (.cells #[.bool true] 4)).alloc (.cells #[.func (.func 137) #[] #[.pointer (some ⟨w.heap.size+1,0,none⟩)]] 168)).heap.size=w.heap.size+3:=by simp
 simp only [World.size_alloc] at xU xT
 refine (callsIn_wide (n:=3)).1 ?_
 refine callsIn_of_wp_marks Tryz.func120 rfl trivial ?_ rfl
 simp only [Tryz.ntmps120,List.size_toArray,List.length_cons,List.length_nil,Nat.reduceAdd,Nat.reduceSub,Array.replicate_succ,Array.replicate_zero,List.push_toArray,List.append_toArray,List.nil_append,List.cons_append]
 gi_wp2_with (first
  | (refine ⟨trivial,?_⟩;gi_at_call 138;refine (callsIn_wide.2 (HP.out _ hb0)).mono ?_;rintro e w1 ⟨Fl,FA,Q,QA,rfl,hF,hQ,⟨g1,g2,g3,g4⟩,hb1⟩;rw [hs0] at g1 g2 g3 g4;have yU:Boxed w1 (w.heap.size+1) 4 (.bool true):=(hb1.block _ xU.lt).trans xU;have yT:Boxed w1 (w.heap.size+1+1) 168 (.func (.func 137) #[] #[.pointer (some ⟨w.heap.size+1,0,none⟩)]):=(hb1.block _ xT.lt).trans xT;have yF:=xF.up hb1;have hbw1:=up_trans hb0 hb1;have hs1:=hb1.size;rw [hs0] at hs1;have zU:=((yU.alloc (.cells #[.pointer (some ⟨Q,0,none⟩)] 152)).alloc (.cells #[.int .i64 K.x,.int .i64 K.y] 23)).cell;have YU:=Lib.hid yU;have YT:=Lib.hid yT;have YF:=Lib.hid yF;have HBW:=Lib.hid hbw1;have HFl:=Lib.hid hF;have HQ:=Lib.hid hQ;clear hb1 yU yT yF hbw1 hF hQ xF xU xT hb0 hs0)
  | (refine ⟨trivial,?_⟩;gi_at_call 139;refine (callsIn_wide.2 (shMirror_yes (HFl.out.up (up_alloc (up_alloc (Below.refl _ _) _) _)) true)).mono ?_;rintro e w3 ⟨P,PA,rfl,hP,gP1,gP2,hb3⟩)
  | (refine ⟨trivial,?_⟩;gi_at_call 134;refine (callsIn_wide.2 (shAll_any _ _)).mono ?_;rintro e w4 ⟨rfl,rfl⟩))
 have hfl:=HFl.out
 rw [mirror_eqS true K.fc K.fr _ hfl.len hfl.c1 hfl.c64 hfl.r64 hfl.r1,HF0.out] at hP
 have hQ1:=HQ.out
 rw [HQ0.out] at hQ1
 obtain ⟨W0,hW0⟩:∃ W0,w3.alloc (.cells #[.pointer (some ⟨P,0,none⟩)] 152)=W0:=⟨_,rfl⟩
 have up3:Below w3.heap.size w3 W0:=by rw [←hW0];exact up_alloc (Below.refl _ _) _
 have z8:=(Boxed.new w1 152 (.pointer (some ⟨Q,0,none⟩))).alloc (.cells #[.int .i64 K.x,.int .i64 K.y] 23)
 have z9:Boxed2 ((w1.alloc (.cells #[.pointer (some ⟨Q,0,none⟩)] 152)).alloc (.cells #[.int .i64 K.x,.int .i64 K.y] 23)) (w1.heap.size+1) 23 (.int .i64 K.x) (.int .i64 K.y):=by
  have:=World.alloc_heap_new (w1.alloc (.cells #[.pointer (some ⟨Q,0,none⟩)] 152)) (.cells #[.int .i64 K.x,.int .i64 K.y] 23)
  rwa [World.size_alloc] at this
 have hs2:((w1.alloc (.cells #[.pointer (some ⟨Q,0,none⟩)] 152)).alloc (.cells #[.int .i64 K.x,.int .i64 K.y] 23)).heap.size=w1.heap.size+2:=by simp
 have hs3:=hb3.size
 rw [hs2] at hs3 gP1 gP2
 have up2:Below ((w1.alloc (.cells #[.pointer (some ⟨Q,0,none⟩)] 152)).alloc (.cells #[.int .i64 K.x,.int .i64 K.y] 23)).heap.size ((w1.alloc (.cells #[.pointer (some ⟨Q,0,none⟩)] 152)).alloc (.cells #[.int .i64 K.x,.int .i64 K.y] 23)) W0:=up_trans hb3 up3
 have up1:Below w1.heap.size w1 W0:=up_trans (up_alloc (up_alloc (Below.refl _ _) _) _) up2
 have upw:Below w.heap.size w W0:=up_trans HBW.out up1
 have f8:Boxed W0 w1.heap.size 152 (.pointer (some ⟨Q,0,none⟩)):=(up2.block _ z8.lt).trans z8
 have f9:Boxed2 W0 (w1.heap.size+1) 23 (.int .i64 K.x) (.int .i64 K.y):=(up2.block _ (by rw [hs2];omega)).trans z9
 have fU:Boxed W0 (w.heap.size+1) 4 (.bool true):=(up1.block _ YU.out.lt).trans YU.out
 have fT:Boxed W0 (w.heap.size+1+1) 168 (.func (.func 137) #[] #[.pointer (some ⟨w.heap.size+1,0,none⟩)]):=(up1.block _ YT.out.lt).trans YT.out
 have fF:=YF.out.up up1
 have gQ:=hQ1.up up1
 have gP:=hP.up up3
 have yG:W0.cell? ⟨w3.heap.size,0,none⟩=some (.pointer (some ⟨P,0,none⟩)):=by rw [←hW0];simp [go_sem]
 have hsz:W0.heap.size=w3.heap.size+1:=by rw [←hW0];simp
 have hlow:∀ D,M D→D<w.heap.size:=fun D h=>(HD.out.dk D h).ltD
 have hI0:LoopI w W0 base w.heap.size W0.heap.size M (runS u true tb hb [] S) W0:=⟨⟨R,HD.out.up upw,fun D h=>.inl (HD.out.dk D h).ltR.2⟩,fun k _ _=>rfl,Nat.le_refl _,upw.mono hbase⟩
 have ltQ:=gQ.ltG
 have ltQA:=gQ.ltA
 rw [hW0]
 clear hW0 z8 z9 hs2 up3 up2 up1 hQ1 hP hfl HP HFl HQ YU YT YF HBW hb3 zU
 have H8:=Lib.hid f8;have H9:=Lib.hid f9;have HU:=Lib.hid fU;have HTF:=Lib.hid fT;have HF:=Lib.hid fF;have HGQ:=Lib.hid gQ;have HLow:=Lib.hid hlow
 clear f8 f9 fU fT fF gQ hlow
 have hm64:=gP.le
 refine wpIn_rangeFunc_ownH rfl (by decide) (gf:=154) (lb:=#[.pointer (some ⟨w3.heap.size,0,none⟩)]) rfl trivial (enters_of Tryz.func154 (by kernel_rfl) rfl)
  (shAll_stopsI 2 NoS w3.heap.size P PA K.fc K.fr F W0 yG gP (fun W' hb b ho=>ho.elim) (fun V V' _ h=>noS_up V V' h)) KeepS.trans (fun W l o o' _ h1 h2 _=>noS_put W l o o' h1 h2) (Below.refl _ _) (fun _=>rfl)
  (fun pre W=>LoopI w W0 base w.heap.size W0.heap.size M (runS u true tb hb pre S) W)
  (fun c pre W=>False)
  (loopI_own (fun pre=>runS u true tb hb pre S) hbase (Nat.le_trans hbase (by omega)))
  (fun c=>ownFrom_pure _ (fun _=>False))
  hI0
  (fun k a' W=>∃ Bq,W0.heap.size≤Bq∧Boxed2 W Bq 23 (.int .i64 ((k.1:Int).tmod K.fc)) (.int .i64 ((k.1:Int).tdiv K.fc)) ∧
   a'={ tmps:=#[.pointer (some ⟨G,0,none⟩),.agg #[.int .i64 1,.int .i64 n,.bool u],undef,.pointer (some ⟨w.heap.size,0,none⟩),.pointer none,.pointer (some ⟨w.heap.size+1,0,none⟩),.pointer (some ⟨w.heap.size+1+1,0,none⟩),.pointer (some ⟨Fl,0,none⟩),.pointer (some ⟨w1.heap.size,0,none⟩),.pointer (some ⟨w1.heap.size+1,0,none⟩),.pointer (some ⟨Bq,0,none⟩),.pointer (some ⟨tb k,0,none⟩),undef,undef,.pointer (some ⟨w.heap.size,0,none⟩),.int .i64 1,.bool true,.bool true,undef,undef,undef,.bool true,.func (.func 137) #[] #[.pointer (some ⟨w.heap.size+1,0,none⟩)],.tuple #[.pointer (some ⟨Fl,0,none⟩),.pointer (some ⟨Q,0,none⟩),.agg #[.int .i64 K.x,.int .i64 K.y]],.pointer (some ⟨G,0,none⟩),.agg #[.int .i64 1,.int .i64 n,.bool u],.tuple #[.pointer (some ⟨Fl,0,none⟩),.pointer (some ⟨Q,0,none⟩),.agg #[.int .i64 K.x,.int .i64 K.y]],.pointer (some ⟨Fl,0,none⟩),.pointer (some ⟨Q,0,none⟩),.agg #[.int .i64 K.x,.int .i64 K.y],.pointer (some ⟨Fl,0,none⟩),.bool true,.pointer (some ⟨P,0,none⟩),.func (.func 154) #[] #[.pointer (some ⟨w3.heap.size,0,none⟩)],.agg #[.int .i64 ((k.1:Int).tmod K.fc),.int .i64 ((k.1:Int).tdiv K.fc)],.pointer (some ⟨tb k,0,none⟩),undef,undef,undef,undef,undef,undef,undef,undef,undef,undef,undef,undef,undef,undef,undef,undef,undef,undef,undef,undef,undef,undef,undef,undef,undef,undef,undef],defers:=[] })
  (fun k a' _ X Y row hs hg hr=>by obtain ⟨Bx,h1,h2,h4⟩:=hs;exact ⟨Bx,h1,boxed2_own Bx _ _ _ () X Y row h2 hg (fun r e=>(hr r e).2),h4⟩)
  ?assign ?body ?done ?stop
 case assign =>
  rintro l0 pre k W Kk hI hK
  have hk:=(HT.out k).1
  unfold encI encV
  simp only [hk,ptrD]
  generalize (k.1:Int).tmod K.fc=px at *
  generalize (k.1:Int).tdiv K.fc=py at *
  gi_wp2
  exact hK _ _ ((KeepsOthers.alloc _ _).from _) (noS_up _ _ (up_alloc (Below.refl _ _) _)) (hI.alloc hbase _) ⟨W.heap.size,hI.2.2.1,World.alloc_heap_new W _,rfl⟩
 case body =>
  rintro l0 pre k a' W hl _ hI ⟨Bq,hBq,kQ,rfl⟩ hlen
  obtain ⟨⟨R1,d1,r1⟩,hsame,hb1W,hbW⟩:=hI
  obtain ⟨_,hMt⟩:=HT.out k
  obtain ⟨hh1,hh2,hMh⟩:=HH.out k
  obtain ⟨hl1,hl2⟩:=runS_len (under:=u) (up:=true) HA.out (fun k=>HLn.out _ (HT.out k).2) (fun k=>HLn.out _ (HH.out k).2.2) pre.length pre rfl
  have hl1:=hl1 k;have hl2:=hl2 k
  have hne:=HA.out k k
  generalize (k.1:Int).tmod K.fc=px at *
  generalize (k.1:Int).tdiv K.fc=py at *
  have hsn:=runS_snoc u true tb hb pre k S
  obtain ⟨S1,hS1⟩:∃ S1,runS u true tb hb pre S=S1:=⟨_,rfl⟩
  rw [hS1] at d1 hl1 hl2 hsn
  have HSn:=Lib.hid hsn
  clear hsn hS1
  obtain ⟨t,ht⟩:∃ t,tb k=t:=⟨_,rfl⟩
  obtain ⟨h,hh⟩:∃ h,hb k=h:=⟨_,rfl⟩
  rw [ht] at hMt hl1 hne HSn ⊢
  rw [hh] at hMh hl2 hne hh2 HSn
  clear ht hh
  have kU:Boxed W (w.heap.size+1) 4 (.bool true):=(hsame _ (by omega) (by omega)).trans HU.out
  have kT:Boxed W (w.heap.size+1+1) 168 (.func (.func 137) #[] #[.pointer (some ⟨w.heap.size+1,0,none⟩)]):=(hsame _ (by omega) (by omega)).trans HTF.out
  have KT:=Lib.hid (pcTurn_any (d1.dk _ hMt) (d1.ne _ hMt) (by omega) kU.cell)
  have cT:=kT.cell
  have KD:=d1.dk _ hMt
  obtain ⟨yR,hyR⟩:=KD.cellsR
  have hQR:Bq≠R1 t:=by
   rintro rfl
   rw [show W.heap[R1 t]?=_ from kQ] at hyR
   injection hyR with hyR
   injection hyR with _ hyR
   exact absurd hyR (by decide)
  have hQt:Bq≠t:=by have:=HLow.out t hMt;omega
  have hlt1:w.heap.size+3≤W0.heap.size:=by omega
  have hr:=HGQ.out.c64;have hr2:=HGQ.out.r64
  have hsx:0≤K.x+px∧K.x+px<64∧0≤K.y+py∧K.y+py<64:=by simp [hasB] at hh1;omega
  have wx:IntKind.i64.wrap (K.x+px)=K.x+px:=IntWalk.i64_in _ (by omega)
  have wy:IntKind.i64.wrap (K.y+py)=K.y+py:=IntWalk.i64_in _ (by omega)
  have KT2:Calls Tryz.prog 140 #[.pointer (some ⟨t,0,none⟩),.func (.func 137) #[] #[.pointer (some ⟨w.heap.size+1,0,none⟩)]] W fun e WT=>e=.returned (.tuple #[])∧∃ R2,
    (WT.cell? ⟨w1.heap.size,0,none⟩=some (.pointer (some ⟨Q,0,none⟩))∧WT.cell? ⟨w1.heap.size+1,0,none⟩=some (.int .i64 K.x)∧WT.cell? ⟨w1.heap.size+1,1,none⟩=some (.int .i64 K.y)∧WT.cell? ⟨Bq,0,none⟩=some (.int .i64 px)∧WT.cell? ⟨Bq,1,none⟩=some (.int .i64 py)) ∧
    Hid (Calls Tryz.prog 121 #[.pointer (some ⟨Q,0,none⟩),.int .i64 (K.x+px),.int .i64 (K.y+py)] WT fun e WA=>e=.returned (.tuple #[.pointer (some ⟨h,0,none⟩),.bool true])∧WA.cell? ⟨w.heap.size,2,none⟩=some (.bool u) ∧
     Hid (Calls Tryz.prog 141 #[.pointer (some ⟨h,0,none⟩),.pointer (some ⟨t,0,none⟩)] WA fun e w'=>e=.returned (.tuple #[])∧MadeP base WA h (R2 h) (S1 h++(S1 t).reverse.map (flipP true)) w') ∧
     Hid (Calls Tryz.prog 142 #[.pointer (some ⟨h,0,none⟩),.pointer (some ⟨t,0,none⟩)] WA fun e w'=>e=.returned (.tuple #[])∧MadeP base WA h (R2 h) ((S1 t).reverse.map (flipP true)++S1 h) w') ∧
     Hid (Decks WA base M R2 (putS S1 t ((S1 t).reverse.map (flipP true))))∧Hid (Below WT.heap.size WT WA))∧Hid (∀ D,M D→R2 D<w.heap.size∨W0.heap.size≤R2 D)∧Hid (∀ k,w.heap.size≤k→k<W0.heap.size→WT.heap[k]?=W0.heap[k]?)∧Hid (Below base w WT)∧Hid (KeepsOthers W WT)∧Hid (KeepS NoS W WT)∧Hid (W0.heap.size≤WT.heap.size)∧Hid (Bx WT w.heap.size [.int .i64 1,.int .i64 n,.bool u]):=by
   refine KT.out.mono ?_
   rintro e WT ⟨rfl,hmT⟩
   obtain ⟨R2,d2,r2,hs2,hbe2,ko2,ks2,hb2⟩:=loop_keep d1 hMt HLow.out r1 hb1W hmT (by simpa using d1.ne t hMt)
   have hs3:=fun k k0 k1=>(hs2 k k0 k1).trans (hsame k k0 k1)
   have k8:Boxed WT w1.heap.size 152 (.pointer (some ⟨Q,0,none⟩)):=(hs3 _ (by omega) (by omega)).trans H8.out
   have k9:Boxed2 WT (w1.heap.size+1) 23 (.int .i64 K.x) (.int .i64 K.y):=(hs3 _ (by omega) (by omega)).trans H9.out
   have kQ:Boxed2 WT Bq 23 (.int .i64 px) (.int .i64 py):=by
    obtain ⟨_,_,_,hb⟩:=hmT
    exact (hb.block Bq (Array.getElem?_eq_some_iff.1 kQ).1 hQt hQR).trans kQ
   have kF:Bx WT w.heap.size [.int .i64 1,.int .i64 n,.bool u]:=HF.out.same (hs3 _ (by omega) (by omega))
   have gQ:=HGQ.out.same (hs3 Q (by omega) (by omega)) (hs3 QA (by omega) (by omega))
   have KA:Calls Tryz.prog 121 #[.pointer (some ⟨Q,0,none⟩),.int .i64 (K.x+px),.int .i64 (K.y+py)] WT fun e w'=>e=.returned (.tuple #[.pointer (some ⟨h,0,none⟩),.bool true])∧Below WT.heap.size WT w':=shAt_yes gQ (K.x+px) (K.y+py) (ptrD h) hh1 hh2
   refine ⟨rfl,R2,⟨k8.cell,k9.c0,k9.c1,kQ.c0,kQ.c1⟩,Lib.hid (KA.mono ?_),Lib.hid r2,Lib.hid hs3,Lib.hid (hbW.trans hbe2),Lib.hid ko2,Lib.hid ks2,Lib.hid hb2,Lib.hid kF⟩
   rintro e WA ⟨rfl,hbA⟩
   have dA:=d2.up hbA
   have kh:=dA.dk h hMh
   have kt:=dA.dk t hMt
   rw [putS_ne hne.symm] at kh
   rw [putS_at] at kt
   have n1:0<(S1 h).length:=d1.ne h hMh
   have n2:0<((S1 t).reverse.map (flipP true)).length:=by simpa using d1.ne t hMt
   have n3:((S1 t).reverse.map (flipP true)).length≤1000000:=by simp;omega
   exact ⟨rfl,(kF.up hbA).cell 2 rfl,Lib.hid (pcUnder_any kh kt n1 n2 (by omega) n3),Lib.hid (pcOver_any kh kt n1 n2 (by omega) n3),Lib.hid dA,Lib.hid hbA⟩
  have HT2:=Lib.hid KT2;have HNE:=Lib.hid hne;have HN1:=Lib.hid (d1.ne h hMh)
  clear KT2 KT KD hyR hQR hQt d1 r1 hsame hbW kQ kU kT hne hl1 hl2 hh1 hh2 hr hr2 hsx
  dsimp only
  gi_wp2_with (first
   | (refine ⟨trivial,?_⟩;gi_at_call 140;refine (CallsIn.inRound l0 (callsIn_wide.2 HT2.out)).mono ?_;rintro e WT ⟨rfl,R2,⟨c8,c90,c91,q0,q1⟩,HA2,HR2,HS2,HBE2,HKO2,HKS2,HB2,HKF⟩)
   | (refine ⟨trivial,?_⟩;gi_at_call 121;refine (CallsIn.inRound l0 (callsIn_wide.2 HA2.out)).mono ?_;rintro e WA ⟨rfl,cu,HUn,HOv,HDA,HBA⟩;clear c8 c90 c91 q0 q1)
   | (refine ⟨trivial,?_⟩;gi_at_call 141;refine (CallsIn.inRound l0 (callsIn_wide.2 HUn.out)).mono ?_;rintro e WU ⟨rfl,hmU⟩;have HMU:=Lib.hid hmU;clear hmU)
   | (refine ⟨trivial,?_⟩;gi_at_call 142;refine (CallsIn.inRound l0 (callsIn_wide.2 HOv.out)).mono ?_;rintro e WU ⟨rfl,hmU⟩;have HMU:=Lib.hid hmU;clear hmU))
  ·have hu:u=true:=by assumption
   rw [hu] at HSn
   have hbA:=HBA.out
   obtain ⟨R3,d3,r3,hs3',hbe3,ko3,ks3,hb3'⟩:=loop_keep HDA.out hMh HLow.out HR2.out (Nat.le_trans HB2.out hbA.size) HMU.out (by rw [List.length_append];have:=HN1.out;omega)
   refine ⟨((HKO2.out.trans (others_below hbA)).trans ko3).from _,(HKS2.out.trans (noS_up _ _ hbA)).trans ks3,?_⟩
   show LoopI w W0 base w.heap.size W0.heap.size M (runS u true tb hb (pre++[k]) S) WU
   rw [hu,HSn.out]
   refine ⟨⟨R3,?_,r3⟩,fun j j0 j1=>(hs3' j j0 j1).trans ((hbA.block j (Nat.lt_of_lt_of_le j1 HB2.out)).trans (HS2.out j j0 j1)),hb3',(HBE2.out.trans (hbA.mono (Nat.le_trans hbase HBE2.out.size))).trans hbe3⟩
   exact d3
  ·have hu:u=false:=by assumption
   rw [hu] at HSn
   have hbA:=HBA.out
   obtain ⟨R3,d3,r3,hs3',hbe3,ko3,ks3,hb3'⟩:=loop_keep HDA.out hMh HLow.out HR2.out (Nat.le_trans HB2.out hbA.size) HMU.out (by rw [List.length_append];have:=HN1.out;omega)
   refine ⟨((HKO2.out.trans (others_below hbA)).trans ko3).from _,(HKS2.out.trans (noS_up _ _ hbA)).trans ks3,?_⟩
   show LoopI w W0 base w.heap.size W0.heap.size M (runS u true tb hb (pre++[k]) S) WU
   rw [hu,HSn.out]
   refine ⟨⟨R3,?_,r3⟩,fun j j0 j1=>(hs3' j j0 j1).trans ((hbA.block j (Nat.lt_of_lt_of_le j1 HB2.out)).trans (HS2.out j j0 j1)),hb3',(HBE2.out.trans (hbA.mono (Nat.le_trans hbase HBE2.out.size))).trans hbe3⟩
   exact d3
 case done =>
  rintro D ys W hD rfl hI hK
  obtain ⟨⟨R1,d1,r1⟩,hsame,hb1W,hbW⟩:=hI
  have k8:Boxed W w1.heap.size 152 (.pointer (some ⟨Q,0,none⟩)):=(hsame _ (by omega) (by omega)).trans H8.out
  have gQ:=HGQ.out.same (hsame Q (by omega) (by omega)) (hsame QA (by omega) (by omega))
  have c8:=k8.cell
  gi_wp2
  refine ⟨by simp,.inl ⟨_,_,rfl,run_takeDeferred hK,?_⟩⟩
  have hg:=grownBy_putObj' W D (.deferred none)
  have hr':∀ r,some D=some r→∃ o:Obj,W.heap[r]?=some o∧o.isCells=false:=fun r e=>by cases e;exact ⟨_,hK,rfl⟩
  exact ⟨_,results_tmp rfl _ _ _,Q,QA,R1,rfl,gQ.put hK rfl,d1.kept hg hr',by omega,by omega,hbW.trans (belowK_b (w:=W0) (Nat.le_trans hbase (by omega)) W D _ _ hD hK rfl rfl)⟩
 case stop =>
  rintro D c pre W hD hpre h hK
  exact h.elim
set_option maxRecDepth 100000 in
set_option maxHeartbeats 4000000 in
theorem after_more {w:World} {base G:Nat} {c:Int} {L:List Ptr} (d n:Int) (u up:Bool) (K:Cut) (F LQ:List Ptr) (tb hb:Ix F.length→Nat) {M:Nat→Prop} {R:Nat→Nat} {S:Nat→List Pc} (e1:(d==1)=false) (e2:(d==2)=up)
  (KP:∀ w',Below w.heap.size w w'→Calls Tryz.prog 138 #[.pointer (some ⟨G,0,none⟩),.agg #[.int .i64 d,.int .i64 n,.bool u]] w' (PartedP w' c L K))
  (hF0:wantMs up K.fc K.fr (wantPs c K.fx K.fy K.fc K.fr L)=F) (hQ0:wantPs c K.rx K.ry K.rc K.rr L=LQ) (hD:Decks w base M R S) (hbase:base≤w.heap.size)
  (hT:∀ k:Ix F.length,F[k.1]'k.2=ptrD (tb k)∧M (tb k)) (hx:0≤K.x∧K.x≤64∧0≤K.y∧K.y≤64)
  (hH:∀ k:Ix F.length,hasB K.rc K.rr (K.x+(k.1:Int).tmod K.fc) (K.y+(k.1:Int).tdiv K.fc)=true∧LQ[at1 K.rc (K.x+(k.1:Int).tmod K.fc) (K.y+(k.1:Int).tdiv K.fc)]?=some (ptrD (hb k))∧M (hb k))
  (hap:∀ k j,tb k≠hb j) (hlen:∀ D,M D→(S D).length≤64) :
  Calls Tryz.prog 120 #[.pointer (some ⟨G,0,none⟩),.agg #[.int .i64 d,.int .i64 n,.bool u]] w fun e w'=>∃ Q QA R',e=.returned (.pointer (some ⟨Q,0,none⟩))∧Gs w' Q QA K.rc K.rr LQ∧Decks w' base M R' (runS u up tb hb (ixs F.length F.length) S)∧w.heap.size≤Q∧w.heap.size≤QA∧Below base w w':=by
 have HP:=Lib.hid KP;have HD:=Lib.hid hD;have HT:=Lib.hid hT;have HH:=Lib.hid hH;have HA:=Lib.hid hap;have HLn:=Lib.hid hlen;have HF0:=Lib.hid hF0;have HQ0:=Lib.hid hQ0
 clear KP hD hT hH hap hlen hF0 hQ0
 have xF:=((Bx.new w 58 [.int .i64 d,.int .i64 n,.bool u]).alloc (.cells #[.bool up] 4)).alloc (.cells #[.func (.func 137) #[] #[.pointer (some ⟨w.heap.size+1,0,none⟩)]] 168)
 have xU:=(Boxed.new (w.alloc (.cells #[.int .i64 d,.int .i64 n,.bool u] 58)) 4 (.bool up)).alloc (.cells #[.func (.func 137) #[] #[.pointer (some ⟨w.heap.size+1,0,none⟩)]] 168)
 have xT:=Boxed.new ((w.alloc (.cells #[.int .i64 d,.int .i64 n,.bool u] 58)).alloc (.cells #[.bool up] 4)) 168 (.func (.func 137) #[] #[.pointer (some ⟨w.heap.size+1,0,none⟩)])
 have hb0:Below w.heap.size w (((w.alloc (.cells #[.int .i64 d,.int .i64 n,.bool u] 58)).alloc (.cells #[.bool up] 4)).alloc (.cells #[.func (.func 137) #[] #[.pointer (some ⟨w.heap.size+1,0,none⟩)]] 168)):=up_alloc (up_alloc (up_alloc (Below.refl _ _) _) _) _
 have hs0:(((w.alloc (.cells #[.int .i64 d,.int .i64 n,.bool u] 58)).alloc (.cells #[.bool up] 4)).alloc (.cells #[.func (.func 137) #[] #[.pointer (some ⟨w.heap.size+1,0,none⟩)]] 168)).heap.size=w.heap.size+3:=by simp
 simp only [World.size_alloc] at xU xT
 refine (callsIn_wide (n:=3)).1 ?_
 refine callsIn_of_wp_marks Tryz.func120 rfl trivial ?_ rfl
 simp only [Tryz.ntmps120,List.size_toArray,List.length_cons,List.length_nil,Nat.reduceAdd,Nat.reduceSub,Array.replicate_succ,Array.replicate_zero,List.push_toArray,List.append_toArray,List.nil_append,List.cons_append]
 gi_wp2_with (first
  | (refine ⟨trivial,?_⟩;gi_at_call 138;refine (callsIn_wide.2 (HP.out _ hb0)).mono ?_;rintro e w1 ⟨Fl,FA,Q,QA,rfl,hF,hQ,⟨g1,g2,g3,g4⟩,hb1⟩;rw [hs0] at g1 g2 g3 g4;have yU:Boxed w1 (w.heap.size+1) 4 (.bool up):=(hb1.block _ xU.lt).trans xU;have yT:Boxed w1 (w.heap.size+1+1) 168 (.func (.func 137) #[] #[.pointer (some ⟨w.heap.size+1,0,none⟩)]):=(hb1.block _ xT.lt).trans xT;have yF:=xF.up hb1;have hbw1:=up_trans hb0 hb1;have hs1:=hb1.size;rw [hs0] at hs1;have zU:=((yU.alloc (.cells #[.pointer (some ⟨Q,0,none⟩)] 152)).alloc (.cells #[.int .i64 K.x,.int .i64 K.y] 23)).cell;have YU:=Lib.hid yU;have YT:=Lib.hid yT;have YF:=Lib.hid yF;have HBW:=Lib.hid hbw1;have HFl:=Lib.hid hF;have HQ:=Lib.hid hQ;clear hb1 yU yT yF hbw1 hF hQ xF xU xT hb0 hs0)
  | (refine ⟨trivial,?_⟩;gi_at_call 139;refine (callsIn_wide.2 (shMirror_yes (HFl.out.up (up_alloc (up_alloc (Below.refl _ _) _) _)) up)).mono ?_;rintro e w3 ⟨P,PA,rfl,hP,gP1,gP2,hb3⟩)
  | (refine ⟨trivial,?_⟩;gi_at_call 134;refine (callsIn_wide.2 (shAll_any _ _)).mono ?_;rintro e w4 ⟨rfl,rfl⟩))
 have hfl:=HFl.out
 rw [mirror_eqS up K.fc K.fr _ hfl.len hfl.c1 hfl.c64 hfl.r64 hfl.r1,HF0.out] at hP
 have hQ1:=HQ.out
 rw [HQ0.out] at hQ1
 obtain ⟨W0,hW0⟩:∃ W0,w3.alloc (.cells #[.pointer (some ⟨P,0,none⟩)] 152)=W0:=⟨_,rfl⟩
 have up3:Below w3.heap.size w3 W0:=by rw [←hW0];exact up_alloc (Below.refl _ _) _
 have z8:=(Boxed.new w1 152 (.pointer (some ⟨Q,0,none⟩))).alloc (.cells #[.int .i64 K.x,.int .i64 K.y] 23)
 have z9:Boxed2 ((w1.alloc (.cells #[.pointer (some ⟨Q,0,none⟩)] 152)).alloc (.cells #[.int .i64 K.x,.int .i64 K.y] 23)) (w1.heap.size+1) 23 (.int .i64 K.x) (.int .i64 K.y):=by
  have:=World.alloc_heap_new (w1.alloc (.cells #[.pointer (some ⟨Q,0,none⟩)] 152)) (.cells #[.int .i64 K.x,.int .i64 K.y] 23)
  rwa [World.size_alloc] at this
 have hs2:((w1.alloc (.cells #[.pointer (some ⟨Q,0,none⟩)] 152)).alloc (.cells #[.int .i64 K.x,.int .i64 K.y] 23)).heap.size=w1.heap.size+2:=by simp
 have hs3:=hb3.size
 rw [hs2] at hs3 gP1 gP2
 have up2:Below ((w1.alloc (.cells #[.pointer (some ⟨Q,0,none⟩)] 152)).alloc (.cells #[.int .i64 K.x,.int .i64 K.y] 23)).heap.size ((w1.alloc (.cells #[.pointer (some ⟨Q,0,none⟩)] 152)).alloc (.cells #[.int .i64 K.x,.int .i64 K.y] 23)) W0:=up_trans hb3 up3
 have up1:Below w1.heap.size w1 W0:=up_trans (up_alloc (up_alloc (Below.refl _ _) _) _) up2
 have upw:Below w.heap.size w W0:=up_trans HBW.out up1
 have f8:Boxed W0 w1.heap.size 152 (.pointer (some ⟨Q,0,none⟩)):=(up2.block _ z8.lt).trans z8
 have f9:Boxed2 W0 (w1.heap.size+1) 23 (.int .i64 K.x) (.int .i64 K.y):=(up2.block _ (by rw [hs2];omega)).trans z9
 have fU:Boxed W0 (w.heap.size+1) 4 (.bool up):=(up1.block _ YU.out.lt).trans YU.out
 have fT:Boxed W0 (w.heap.size+1+1) 168 (.func (.func 137) #[] #[.pointer (some ⟨w.heap.size+1,0,none⟩)]):=(up1.block _ YT.out.lt).trans YT.out
 have fF:=YF.out.up up1
 have gQ:=hQ1.up up1
 have gP:=hP.up up3
 have yG:W0.cell? ⟨w3.heap.size,0,none⟩=some (.pointer (some ⟨P,0,none⟩)):=by rw [←hW0];simp [go_sem]
 have hsz:W0.heap.size=w3.heap.size+1:=by rw [←hW0];simp
 have hlow:∀ D,M D→D<w.heap.size:=fun D h=>(HD.out.dk D h).ltD
 have hI0:LoopI w W0 base w.heap.size W0.heap.size M (runS u up tb hb [] S) W0:=⟨⟨R,HD.out.up upw,fun D h=>.inl (HD.out.dk D h).ltR.2⟩,fun k _ _=>rfl,Nat.le_refl _,upw.mono hbase⟩
 have ltQ:=gQ.ltG
 have ltQA:=gQ.ltA
 rw [hW0]
 clear hW0 z8 z9 hs2 up3 up2 up1 hQ1 hP hfl HP HFl HQ YU YT YF HBW hb3 zU
 have H8:=Lib.hid f8;have H9:=Lib.hid f9;have HU:=Lib.hid fU;have HTF:=Lib.hid fT;have HF:=Lib.hid fF;have HGQ:=Lib.hid gQ;have HLow:=Lib.hid hlow
 clear f8 f9 fU fT fF gQ hlow
 have hm64:=gP.le
 refine wpIn_rangeFunc_ownH rfl (by decide) (gf:=154) (lb:=#[.pointer (some ⟨w3.heap.size,0,none⟩)]) rfl trivial (enters_of Tryz.func154 (by kernel_rfl) rfl)
  (shAll_stopsI 2 NoS w3.heap.size P PA K.fc K.fr F W0 yG gP (fun W' hb b ho=>ho.elim) (fun V V' _ h=>noS_up V V' h)) KeepS.trans (fun W l o o' _ h1 h2 _=>noS_put W l o o' h1 h2) (Below.refl _ _) (fun _=>rfl)
  (fun pre W=>LoopI w W0 base w.heap.size W0.heap.size M (runS u up tb hb pre S) W)
  (fun c pre W=>False)
  (loopI_own (fun pre=>runS u up tb hb pre S) hbase (Nat.le_trans hbase (by omega)))
  (fun c=>ownFrom_pure _ (fun _=>False))
  hI0
  (fun k a' W=>∃ Bq,W0.heap.size≤Bq∧Boxed2 W Bq 23 (.int .i64 ((k.1:Int).tmod K.fc)) (.int .i64 ((k.1:Int).tdiv K.fc)) ∧
   a'={ tmps:=#[.pointer (some ⟨G,0,none⟩),.agg #[.int .i64 d,.int .i64 n,.bool u],undef,.pointer (some ⟨w.heap.size,0,none⟩),.pointer none,.pointer (some ⟨w.heap.size+1,0,none⟩),.pointer (some ⟨w.heap.size+1+1,0,none⟩),.pointer (some ⟨Fl,0,none⟩),.pointer (some ⟨w1.heap.size,0,none⟩),.pointer (some ⟨w1.heap.size+1,0,none⟩),.pointer (some ⟨Bq,0,none⟩),.pointer (some ⟨tb k,0,none⟩),undef,undef,.pointer (some ⟨w.heap.size,0,none⟩),.int .i64 d,.bool false,.bool false,.pointer (some ⟨w.heap.size,0,none⟩),.int .i64 d,.bool up,.bool up,.func (.func 137) #[] #[.pointer (some ⟨w.heap.size+1,0,none⟩)],.tuple #[.pointer (some ⟨Fl,0,none⟩),.pointer (some ⟨Q,0,none⟩),.agg #[.int .i64 K.x,.int .i64 K.y]],.pointer (some ⟨G,0,none⟩),.agg #[.int .i64 d,.int .i64 n,.bool u],.tuple #[.pointer (some ⟨Fl,0,none⟩),.pointer (some ⟨Q,0,none⟩),.agg #[.int .i64 K.x,.int .i64 K.y]],.pointer (some ⟨Fl,0,none⟩),.pointer (some ⟨Q,0,none⟩),.agg #[.int .i64 K.x,.int .i64 K.y],.pointer (some ⟨Fl,0,none⟩),.bool up,.pointer (some ⟨P,0,none⟩),.func (.func 154) #[] #[.pointer (some ⟨w3.heap.size,0,none⟩)],.agg #[.int .i64 ((k.1:Int).tmod K.fc),.int .i64 ((k.1:Int).tdiv K.fc)],.pointer (some ⟨tb k,0,none⟩),undef,undef,undef,undef,undef,undef,undef,undef,undef,undef,undef,undef,undef,undef,undef,undef,undef,undef,undef,undef,undef,undef,undef,undef,undef,undef,undef],defers:=[] })
  (fun k a' _ X Y row hs hg hr=>by obtain ⟨Bx,h1,h2,h4⟩:=hs;exact ⟨Bx,h1,boxed2_own Bx _ _ _ () X Y row h2 hg (fun r e=>(hr r e).2),h4⟩)
  ?assign ?body ?done ?stop
 case assign =>
  rintro l0 pre k W Kk hI hK
  have hk:=(HT.out k).1
  unfold encI encV
  simp only [hk,ptrD]
  generalize (k.1:Int).tmod K.fc=px at *
  generalize (k.1:Int).tdiv K.fc=py at *
  gi_wp2
  exact hK _ _ ((KeepsOthers.alloc _ _).from _) (noS_up _ _ (up_alloc (Below.refl _ _) _)) (hI.alloc hbase _) ⟨W.heap.size,hI.2.2.1,World.alloc_heap_new W _,rfl⟩
 case body =>
  rintro l0 pre k a' W hl _ hI ⟨Bq,hBq,kQ,rfl⟩ hlen
  obtain ⟨⟨R1,d1,r1⟩,hsame,hb1W,hbW⟩:=hI
  obtain ⟨_,hMt⟩:=HT.out k
  obtain ⟨hh1,hh2,hMh⟩:=HH.out k
  obtain ⟨hl1,hl2⟩:=runS_len (under:=u) (up:=up) HA.out (fun k=>HLn.out _ (HT.out k).2) (fun k=>HLn.out _ (HH.out k).2.2) pre.length pre rfl
  have hl1:=hl1 k;have hl2:=hl2 k
  have hne:=HA.out k k
  generalize (k.1:Int).tmod K.fc=px at *
  generalize (k.1:Int).tdiv K.fc=py at *
  have hsn:=runS_snoc u up tb hb pre k S
  obtain ⟨S1,hS1⟩:∃ S1,runS u up tb hb pre S=S1:=⟨_,rfl⟩
  rw [hS1] at d1 hl1 hl2 hsn
  have HSn:=Lib.hid hsn
  clear hsn hS1
  obtain ⟨t,ht⟩:∃ t,tb k=t:=⟨_,rfl⟩
  obtain ⟨h,hh⟩:∃ h,hb k=h:=⟨_,rfl⟩
  rw [ht] at hMt hl1 hne HSn ⊢
  rw [hh] at hMh hl2 hne hh2 HSn
  clear ht hh
  have kU:Boxed W (w.heap.size+1) 4 (.bool up):=(hsame _ (by omega) (by omega)).trans HU.out
  have kT:Boxed W (w.heap.size+1+1) 168 (.func (.func 137) #[] #[.pointer (some ⟨w.heap.size+1,0,none⟩)]):=(hsame _ (by omega) (by omega)).trans HTF.out
  have KT:=Lib.hid (pcTurn_any (d1.dk _ hMt) (d1.ne _ hMt) (by omega) kU.cell)
  have cT:=kT.cell
  have KD:=d1.dk _ hMt
  obtain ⟨yR,hyR⟩:=KD.cellsR
  have hQR:Bq≠R1 t:=by
   rintro rfl
   rw [show W.heap[R1 t]?=_ from kQ] at hyR
   injection hyR with hyR
   injection hyR with _ hyR
   exact absurd hyR (by decide)
  have hQt:Bq≠t:=by have:=HLow.out t hMt;omega
  have hlt1:w.heap.size+3≤W0.heap.size:=by omega
  have hr:=HGQ.out.c64;have hr2:=HGQ.out.r64
  have hsx:0≤K.x+px∧K.x+px<64∧0≤K.y+py∧K.y+py<64:=by simp [hasB] at hh1;omega
  have wx:IntKind.i64.wrap (K.x+px)=K.x+px:=IntWalk.i64_in _ (by omega)
  have wy:IntKind.i64.wrap (K.y+py)=K.y+py:=IntWalk.i64_in _ (by omega)
  have KT2:Calls Tryz.prog 140 #[.pointer (some ⟨t,0,none⟩),.func (.func 137) #[] #[.pointer (some ⟨w.heap.size+1,0,none⟩)]] W fun e WT=>e=.returned (.tuple #[])∧∃ R2,
    (WT.cell? ⟨w1.heap.size,0,none⟩=some (.pointer (some ⟨Q,0,none⟩))∧WT.cell? ⟨w1.heap.size+1,0,none⟩=some (.int .i64 K.x)∧WT.cell? ⟨w1.heap.size+1,1,none⟩=some (.int .i64 K.y)∧WT.cell? ⟨Bq,0,none⟩=some (.int .i64 px)∧WT.cell? ⟨Bq,1,none⟩=some (.int .i64 py)) ∧
    Hid (Calls Tryz.prog 121 #[.pointer (some ⟨Q,0,none⟩),.int .i64 (K.x+px),.int .i64 (K.y+py)] WT fun e WA=>e=.returned (.tuple #[.pointer (some ⟨h,0,none⟩),.bool true])∧WA.cell? ⟨w.heap.size,2,none⟩=some (.bool u) ∧
     Hid (Calls Tryz.prog 141 #[.pointer (some ⟨h,0,none⟩),.pointer (some ⟨t,0,none⟩)] WA fun e w'=>e=.returned (.tuple #[])∧MadeP base WA h (R2 h) (S1 h++(S1 t).reverse.map (flipP up)) w') ∧
     Hid (Calls Tryz.prog 142 #[.pointer (some ⟨h,0,none⟩),.pointer (some ⟨t,0,none⟩)] WA fun e w'=>e=.returned (.tuple #[])∧MadeP base WA h (R2 h) ((S1 t).reverse.map (flipP up)++S1 h) w') ∧
     Hid (Decks WA base M R2 (putS S1 t ((S1 t).reverse.map (flipP up))))∧Hid (Below WT.heap.size WT WA))∧Hid (∀ D,M D→R2 D<w.heap.size∨W0.heap.size≤R2 D)∧Hid (∀ k,w.heap.size≤k→k<W0.heap.size→WT.heap[k]?=W0.heap[k]?)∧Hid (Below base w WT)∧Hid (KeepsOthers W WT)∧Hid (KeepS NoS W WT)∧Hid (W0.heap.size≤WT.heap.size)∧Hid (Bx WT w.heap.size [.int .i64 d,.int .i64 n,.bool u]):=by
   refine KT.out.mono ?_
   rintro e WT ⟨rfl,hmT⟩
   obtain ⟨R2,d2,r2,hs2,hbe2,ko2,ks2,hb2⟩:=loop_keep d1 hMt HLow.out r1 hb1W hmT (by simpa using d1.ne t hMt)
   have hs3:=fun k k0 k1=>(hs2 k k0 k1).trans (hsame k k0 k1)
   have k8:Boxed WT w1.heap.size 152 (.pointer (some ⟨Q,0,none⟩)):=(hs3 _ (by omega) (by omega)).trans H8.out
   have k9:Boxed2 WT (w1.heap.size+1) 23 (.int .i64 K.x) (.int .i64 K.y):=(hs3 _ (by omega) (by omega)).trans H9.out
   have kQ:Boxed2 WT Bq 23 (.int .i64 px) (.int .i64 py):=by
    obtain ⟨_,_,_,hb⟩:=hmT
    exact (hb.block Bq (Array.getElem?_eq_some_iff.1 kQ).1 hQt hQR).trans kQ
   have kF:Bx WT w.heap.size [.int .i64 d,.int .i64 n,.bool u]:=HF.out.same (hs3 _ (by omega) (by omega))
   have gQ:=HGQ.out.same (hs3 Q (by omega) (by omega)) (hs3 QA (by omega) (by omega))
   have KA:Calls Tryz.prog 121 #[.pointer (some ⟨Q,0,none⟩),.int .i64 (K.x+px),.int .i64 (K.y+py)] WT fun e w'=>e=.returned (.tuple #[.pointer (some ⟨h,0,none⟩),.bool true])∧Below WT.heap.size WT w':=shAt_yes gQ (K.x+px) (K.y+py) (ptrD h) hh1 hh2
   refine ⟨rfl,R2,⟨k8.cell,k9.c0,k9.c1,kQ.c0,kQ.c1⟩,Lib.hid (KA.mono ?_),Lib.hid r2,Lib.hid hs3,Lib.hid (hbW.trans hbe2),Lib.hid ko2,Lib.hid ks2,Lib.hid hb2,Lib.hid kF⟩
   rintro e WA ⟨rfl,hbA⟩
   have dA:=d2.up hbA
   have kh:=dA.dk h hMh
   have kt:=dA.dk t hMt
   rw [putS_ne hne.symm] at kh
   rw [putS_at] at kt
   have n1:0<(S1 h).length:=d1.ne h hMh
   have n2:0<((S1 t).reverse.map (flipP up)).length:=by simpa using d1.ne t hMt
   have n3:((S1 t).reverse.map (flipP up)).length≤1000000:=by simp;omega
   exact ⟨rfl,(kF.up hbA).cell 2 rfl,Lib.hid (pcUnder_any kh kt n1 n2 (by omega) n3),Lib.hid (pcOver_any kh kt n1 n2 (by omega) n3),Lib.hid dA,Lib.hid hbA⟩
  have HT2:=Lib.hid KT2;have HNE:=Lib.hid hne;have HN1:=Lib.hid (d1.ne h hMh)
  clear KT2 KT KD hyR hQR hQt d1 r1 hsame hbW kQ kU kT hne hl1 hl2 hh1 hh2 hr hr2 hsx
  dsimp only
  gi_wp2_with (first
   | (refine ⟨trivial,?_⟩;gi_at_call 140;refine (CallsIn.inRound l0 (callsIn_wide.2 HT2.out)).mono ?_;rintro e WT ⟨rfl,R2,⟨c8,c90,c91,q0,q1⟩,HA2,HR2,HS2,HBE2,HKO2,HKS2,HB2,HKF⟩)
   | (refine ⟨trivial,?_⟩;gi_at_call 121;refine (CallsIn.inRound l0 (callsIn_wide.2 HA2.out)).mono ?_;rintro e WA ⟨rfl,cu,HUn,HOv,HDA,HBA⟩;clear c8 c90 c91 q0 q1)
   | (refine ⟨trivial,?_⟩;gi_at_call 141;refine (CallsIn.inRound l0 (callsIn_wide.2 HUn.out)).mono ?_;rintro e WU ⟨rfl,hmU⟩;have HMU:=Lib.hid hmU;clear hmU)
   | (refine ⟨trivial,?_⟩;gi_at_call 142;refine (CallsIn.inRound l0 (callsIn_wide.2 HOv.out)).mono ?_;rintro e WU ⟨rfl,hmU⟩;have HMU:=Lib.hid hmU;clear hmU))
  ·have hu:u=true:=by assumption
   rw [hu] at HSn
   have hbA:=HBA.out
   obtain ⟨R3,d3,r3,hs3',hbe3,ko3,ks3,hb3'⟩:=loop_keep HDA.out hMh HLow.out HR2.out (Nat.le_trans HB2.out hbA.size) HMU.out (by rw [List.length_append];have:=HN1.out;omega)
   refine ⟨((HKO2.out.trans (others_below hbA)).trans ko3).from _,(HKS2.out.trans (noS_up _ _ hbA)).trans ks3,?_⟩
   show LoopI w W0 base w.heap.size W0.heap.size M (runS u up tb hb (pre++[k]) S) WU
   rw [hu,HSn.out]
   refine ⟨⟨R3,?_,r3⟩,fun j j0 j1=>(hs3' j j0 j1).trans ((hbA.block j (Nat.lt_of_lt_of_le j1 HB2.out)).trans (HS2.out j j0 j1)),hb3',(HBE2.out.trans (hbA.mono (Nat.le_trans hbase HBE2.out.size))).trans hbe3⟩
   exact d3
  ·have hu:u=false:=by assumption
   rw [hu] at HSn
   have hbA:=HBA.out
   obtain ⟨R3,d3,r3,hs3',hbe3,ko3,ks3,hb3'⟩:=loop_keep HDA.out hMh HLow.out HR2.out (Nat.le_trans HB2.out hbA.size) HMU.out (by rw [List.length_append];have:=HN1.out;omega)
   refine ⟨((HKO2.out.trans (others_below hbA)).trans ko3).from _,(HKS2.out.trans (noS_up _ _ hbA)).trans ks3,?_⟩
   show LoopI w W0 base w.heap.size W0.heap.size M (runS u up tb hb (pre++[k]) S) WU
   rw [hu,HSn.out]
   refine ⟨⟨R3,?_,r3⟩,fun j j0 j1=>(hs3' j j0 j1).trans ((hbA.block j (Nat.lt_of_lt_of_le j1 HB2.out)).trans (HS2.out j j0 j1)),hb3',(HBE2.out.trans (hbA.mono (Nat.le_trans hbase HBE2.out.size))).trans hbe3⟩
   exact d3
 case done =>
  rintro D ys W hD rfl hI hK
  obtain ⟨⟨R1,d1,r1⟩,hsame,hb1W,hbW⟩:=hI
  have k8:Boxed W w1.heap.size 152 (.pointer (some ⟨Q,0,none⟩)):=(hsame _ (by omega) (by omega)).trans H8.out
  have gQ:=HGQ.out.same (hsame Q (by omega) (by omega)) (hsame QA (by omega) (by omega))
  have c8:=k8.cell
  gi_wp2
  refine ⟨by simp,.inl ⟨_,_,rfl,run_takeDeferred hK,?_⟩⟩
  have hg:=grownBy_putObj' W D (.deferred none)
  have hr':∀ r,some D=some r→∃ o:Obj,W.heap[r]?=some o∧o.isCells=false:=fun r e=>by cases e;exact ⟨_,hK,rfl⟩
  exact ⟨_,results_tmp rfl _ _ _,Q,QA,R1,rfl,gQ.put hK rfl,d1.kept hg hr',by omega,by omega,hbW.trans (belowK_b (w:=W0) (Nat.le_trans hbase (by omega)) W D _ _ hD hK rfl rfl)⟩
 case stop =>
  rintro D c pre W hD hpre h hK
  exact h.elim
end Go.Proofs.YtbbjileignefbaaGreatDoor
namespace Go.Proofs.YtbbjileignefbaaGreatDoor
structure Rp where
 n:Int
 col:Int
 row:Int
 fx:Bool
 fy:Bool
deriving DecidableEq,Inhabited
def toPc (p:Rp):Pc:=⟨p.n,p.fx,p.fy⟩
def movedM (d n c r:Int) (p:Rp):Bool:=if d=1 then decide (p.col<n) else if d=2 then decide (c-n≤p.col) else if d=3 then decide (p.row<n) else decide (r-n≤p.row)
def turnedM (d n c r:Int) (p:Rp):Rp :=
 if d=1 then ⟨p.n,2*n-1-p.col,p.row,!p.fx,p.fy⟩ else if d=2 then ⟨p.n,2*(c-n)-1-p.col,p.row,!p.fx,p.fy⟩
 else if d=3 then ⟨p.n,p.col,2*n-1-p.row,p.fx,!p.fy⟩ else ⟨p.n,p.col,2*(r-n)-1-p.row,p.fx,!p.fy⟩
def shiftM (d n:Int) (p:Rp):Rp:=if d=1 then ⟨p.n,p.col-n,p.row,p.fx,p.fy⟩ else if d=3 then ⟨p.n,p.col,p.row-n,p.fx,p.fy⟩ else p
def overM (d n c r:Int) (l:List Rp):List Rp:=(l.filter (movedM d n c r)).map (turnedM d n c r)
def restM (d n c r:Int) (l:List Rp):List Rp:=l.filter fun p=>!movedM d n c r p
def joinU {α:Type} (u:Bool) (rest over:List α):List α:=if u=true then rest++over else over++rest
def stepR (d n:Int) (u:Bool) (c r:Int) (l:List Rp):List Rp:=(joinU u (restM d n c r l) (overM d n c r l).reverse).map (shiftM d n)
def atB (x y:Int) (p:Rp):Bool:=decide (p.col=x)&&decide (p.row=y)
def pileL (l:List Rp) (x y:Int):List Pc:=(l.filter (atB x y)).map toPc
def InR (c r:Int) (l:List Rp):Prop:=∀ p∈l,(0≤p.col∧p.col<c)∧0≤p.row∧p.row<r
def upM (d:Int):Bool:=decide (d=1) || decide (d=2)
theorem step_length (d n:Int) (u:Bool) (c r:Int) (l:List Rp):(stepR d n u c r l).length=l.length:=by
 unfold stepR joinU overM restM
 have:(l.filter (movedM d n c r)).length+(l.filter fun p=>!movedM d n c r p).length=l.length:=by
  induction l with
  | nil=>rfl
  | cons p l ih=>cases h:movedM d n c r p<;>simp [h]<;>omega
 cases u<;>simp<;>omega
theorem pile_length (l:List Rp) (x y:Int):(pileL l x y).length≤l.length:=by unfold pileL;rw [List.length_map];exact List.length_filter_le _ _
def backX (d n:Int) (x:Int):Int:=if d=1 then x+n else x
def backY (d n:Int) (y:Int):Int:=if d=3 then y+n else y
def reflX (d n c:Int) (x:Int):Int:=if d=1 then 2*n-1-x else if d=2 then 2*(c-n)-1-x else x
def reflY (d n r:Int) (y:Int):Int:=if d=3 then 2*n-1-y else if d=1∨d=2 then y else 2*(r-n)-1-y
theorem filter_map_at {f:Rp→Rp} {x y x' y':Int} {l:List Rp} (h:∀ p∈l,atB x y (f p)=atB x' y' p):(l.map f).filter (atB x y)=(l.filter (atB x' y')).map f:=by
 induction l with
 | nil=>rfl
 | cons p l ih =>
  have hp:=h p (by simp)
  have ih:=ih fun q hq=>h q (List.mem_cons_of_mem _ hq)
  rw [List.map_cons,List.filter_cons,hp,List.filter_cons,ih]
  cases atB x' y' p<;>simp
theorem filter_comm {α:Type} (p q:α→Bool) (l:List α):(l.filter p).filter q=(l.filter q).filter p:=by
 rw [List.filter_filter,List.filter_filter]
 congr 1
 funext a
 exact Bool.and_comm _ _
def foldPl (d n:Int) (u:Bool) (c r:Int) (P:Int→Int→List Pc) (x y:Int):List Pc :=
 if (0≤reflX d n c (backX d n x)∧reflX d n c (backX d n x)<c)∧0≤reflY d n r (backY d n y)∧reflY d n r (backY d n y)<r then joinU u (P (backX d n x) (backY d n y)) ((P (reflX d n c (backX d n x)) (reflY d n r (backY d n y))).reverse.map (flipP (upM d)))
 else P (backX d n x) (backY d n y)
structure Can (d n c r:Int):Prop where
 d1:1≤d
 d4:d≤4
 n1:1≤n
 c1:1≤c
 r1:1≤r
 side:if d≤2 then 2*n≤c else 2*n≤r
def newC (d n c:Int):Int:=if d≤2 then c-n else c
def newR (d n r:Int):Int:=if d≤2 then r else r-n
theorem Can.cases {d n c r:Int} (h:Can d n c r):(d=1∧2*n≤c)∨(d=2∧2*n≤c)∨(d=3∧2*n≤r)∨(d=4∧2*n≤r):=by
 have h1:=h.d1;have h4:=h.d4;have hs:=h.side
 by_cases e:d≤2
 ·rw [if_pos e] at hs;omega
 ·rw [if_neg e] at hs;omega
theorem toPc_turned {d n c r:Int} (h:1≤d∧d≤4) (p:Rp):toPc (turnedM d n c r p)=flipP (upM d) (toPc p):=by
 obtain rfl | rfl | rfl | rfl:d=1∨d=2∨d=3∨d=4:=by omega
 all_goals simp [toPc,turnedM,flipP,upM]
theorem toPc_shift (d n:Int) (p:Rp):toPc (shiftM d n p)=toPc p:=by unfold shiftM toPc;split<;>(try split)<;>rfl
theorem step_in {d n c r:Int} {u:Bool} (h:Can d n c r) {l:List Rp} (hl:InR c r l):InR (newC d n c) (newR d n r) (stepR d n u c r l):=by
 intro p hp
 obtain ⟨q,hq,rfl⟩:=List.mem_map.1 hp
 have n1:=h.n1
 have hq:q∈restM d n c r l∨q∈overM d n c r l:=by
  unfold joinU at hq
  cases u
  ·simp at hq;exact hq.symm
  ·simpa using hq
 rcases hq with hq | hq
 ·obtain ⟨h1,h2⟩:=List.mem_filter.1 hq
  have k:=hl q h1
  rcases h.cases with ⟨rfl,e⟩ | ⟨rfl,e⟩ | ⟨rfl,e⟩ | ⟨rfl,e⟩
  all_goals
   simp [movedM] at h2
   simp [shiftM,newC,newR]
   omega
 ·obtain ⟨q',h0,rfl⟩:=List.mem_map.1 hq
  obtain ⟨h1,h2⟩:=List.mem_filter.1 h0
  have k:=hl q' h1
  rcases h.cases with ⟨rfl,e⟩ | ⟨rfl,e⟩ | ⟨rfl,e⟩ | ⟨rfl,e⟩
  all_goals
   simp [movedM] at h2
   simp [shiftM,turnedM,newC,newR]
   omega
theorem pile_rest {d n c r:Int} (h:Can d n c r) {l:List Rp} {x y:Int} (hx:0≤x∧x<newC d n c) (hy:0≤y∧y<newR d n r):(restM d n c r l).filter (atB (backX d n x) (backY d n y))=l.filter (atB (backX d n x) (backY d n y)):=by
 unfold restM
 rw [filter_comm,List.filter_eq_self]
 intro p hp
 obtain ⟨_,h2⟩:=List.mem_filter.1 hp
 simp [atB] at h2
 rcases h.cases with ⟨rfl,e⟩ | ⟨rfl,e⟩ | ⟨rfl,e⟩ | ⟨rfl,e⟩
 all_goals
  simp [backX,backY] at h2
  simp [newC,newR] at hx hy
  simp [movedM]
  omega
theorem pile_over {d n c r:Int} (h:Can d n c r) {l:List Rp} (hl:InR c r l) {x y:Int} (hx:0≤x∧x<newC d n c) (hy:0≤y∧y<newR d n r) :
  (overM d n c r l).filter (atB (backX d n x) (backY d n y))=(l.filter (atB (reflX d n c (backX d n x)) (reflY d n r (backY d n y)))).map (turnedM d n c r):=by
 unfold overM
 rw [filter_map_at (x':=reflX d n c (backX d n x)) (y':=reflY d n r (backY d n y)),filter_comm]
 ·congr 1
  rw [List.filter_eq_self]
  intro p hp
  obtain ⟨h1,h2⟩:=List.mem_filter.1 hp
  have k:=hl p h1
  simp [atB] at h2
  rcases h.cases with ⟨rfl,e⟩ | ⟨rfl,e⟩ | ⟨rfl,e⟩ | ⟨rfl,e⟩
  all_goals
   simp [backX,backY,reflX,reflY] at h2
   simp [newC,newR] at hx hy
   simp [movedM]
   omega
 ·intro p hp
  rw [Bool.eq_iff_iff]
  rcases h.cases with ⟨rfl,e⟩ | ⟨rfl,e⟩ | ⟨rfl,e⟩ | ⟨rfl,e⟩
  all_goals
   simp [atB,turnedM,reflX,reflY,backX,backY]
   omega
theorem step_piles {d n c r:Int} {u:Bool} (h:Can d n c r) {l:List Rp} (hl:InR c r l) {x y:Int} (hx:0≤x∧x<newC d n c) (hy:0≤y∧y<newR d n r):pileL (stepR d n u c r l) x y=foldPl d n u c r (pileL l) x y:=by
 have hs:∀ q:Rp,atB x y (shiftM d n q)=atB (backX d n x) (backY d n y) q:=by
  intro q
  rw [Bool.eq_iff_iff]
  rcases h.cases with ⟨rfl,e⟩ | ⟨rfl,e⟩ | ⟨rfl,e⟩ | ⟨rfl,e⟩
  all_goals
   simp [atB,shiftM,backX,backY]
   try omega
 have hd:1≤d∧d≤4:=⟨h.d1,h.d4⟩
 have e1:pileL (stepR d n u c r l) x y=((joinU u (restM d n c r l) (overM d n c r l).reverse).filter (atB (backX d n x) (backY d n y))).map toPc:=by
  unfold pileL stepR
  rw [filter_map_at (fun p _=>hs p),List.map_map]
  congr 1
  funext p
  exact toPc_shift d n p
 have e2:(joinU u (restM d n c r l) (overM d n c r l).reverse).filter (atB (backX d n x) (backY d n y))=joinU u (l.filter (atB (backX d n x) (backY d n y))) ((l.filter (atB (reflX d n c (backX d n x)) (reflY d n r (backY d n y)))).map (turnedM d n c r)).reverse:=by
  unfold joinU
  cases u
  ·simp only [Bool.false_eq_true,if_false,List.filter_append,List.filter_reverse,pile_rest h hx hy,pile_over h hl hx hy]
  ·simp only [if_true,List.filter_append,List.filter_reverse,pile_rest h hx hy,pile_over h hl hx hy]
 have e3:∀ m:List Rp,(m.map (turnedM d n c r)).map toPc=(m.map toPc).map (flipP (upM d)):=fun m=>by
  rw [List.map_map,List.map_map]
  congr 1
  funext p
  exact toPc_turned hd p
 rw [e1,e2]
 unfold foldPl
 split
 ·unfold joinU pileL
  cases u<;>simp only [Bool.false_eq_true,if_false,if_true,List.map_append,List.map_reverse,e3]
 ·rename_i hout
  have e4:l.filter (atB (reflX d n c (backX d n x)) (reflY d n r (backY d n y)))=[]:=by
   rw [List.filter_eq_nil_iff]
   intro p hp ha
   have k:=hl p hp
   simp [atB] at ha
   exact hout ⟨by omega,by omega⟩
  rw [e4]
  unfold joinU pileL
  cases u<;>simp
end Go.Proofs.YtbbjileignefbaaGreatDoor
namespace Go.Proofs.YtbbjileignefbaaGreatDoor
open Go.RowKit
def Sheet (w:World) (base G:Nat) (c r:Int) (P:Int→Int→List Pc):Prop :=
 ∃ (A:Nat) (L:List Ptr) (bk:Nat→Nat) (R:Nat→Nat) (S:Nat→List Pc),Gs w G A c r L∧(∀ k,k<L.length→L[k]?=some (ptrD (bk k)))∧(∀ i j,i<L.length→j<L.length→bk i=bk j→i=j)∧Decks w base (fun D=>∃ k,k<L.length∧D=bk k) R S∧∀ x y,(0≤x∧x<c)→(0≤y∧y<r)→S (bk (y*c+x).toNat)=P x y
theorem Sheet.up {w w':World} {base G:Nat} {c r:Int} {P:Int→Int→List Pc} (h:Sheet w base G c r P) (hb:Below w.heap.size w w'):Sheet w' base G c r P:=by
 obtain ⟨A,L,bk,R,S,h1,h2,h3,h4,h5⟩:=h
 exact ⟨A,L,bk,R,S,h1.up hb,h2,h3,h4.up hb,h5⟩
theorem Sheet.sides {w:World} {base G:Nat} {c r:Int} {P:Int→Int→List Pc} (h:Sheet w base G c r P):(1≤c∧c≤64)∧1≤r∧r≤64:=by
 obtain ⟨A,L,bk,R,S,h1,_⟩:=h
 exact ⟨⟨h1.c1,h1.c64⟩,h1.r1,h1.r64⟩
theorem Sheet.piles {w:World} {base G:Nat} {c r:Int} {P Q:Int→Int→List Pc} (h:Sheet w base G c r P) (hq:∀ x y,(0≤x∧x<c)→(0≤y∧y<r)→P x y=Q x y):Sheet w base G c r Q:=by
 obtain ⟨A,L,bk,R,S,h1,h2,h3,h4,h5⟩:=h
 exact ⟨A,L,bk,R,S,h1,h2,h3,h4,fun x y hx hy=>(h5 x y hx hy).trans (hq x y hx hy)⟩
theorem idx_lt {c r x y:Int} (hx:0≤x∧x<c) (hy:0≤y∧y<r):0≤y*c+x∧y*c+x<c*r:=place_lt (by omega) hx.1 hx.2 hy.1 hy.2
theorem idx_inj {c x y x' y':Int} (hx:0≤x∧x<c) (hy:0≤y) (hx':0≤x'∧x'<c) (hy':0≤y') (h:(y*c+x).toNat=(y'*c+x').toNat):x=x'∧y=y':=by
 have h0:0≤y*c:=Int.mul_nonneg hy (by omega)
 have h1:0≤y'*c:=Int.mul_nonneg hy' (by omega)
 have h:y*c+x=y'*c+x':=by omega
 obtain ⟨a1,a2⟩:=td y x c hy hx.1 hx.2
 obtain ⟨b1,b2⟩:=td y' x' c hy' hx'.1 hx'.2
 rw [h] at a1 a2
 exact ⟨a2.symm.trans b2,a1.symm.trans b1⟩
theorem sheet_flat {w w':World} {c r:Int} {e:Ending} (h:FlatP w c r e w'):∃ G,e=.returned (.pointer (some ⟨G,0,none⟩))∧Sheet w' w.heap.size G c r (fun x y=>[⟨y*c+x,false,false⟩])∧Below w.heap.size w w':=by
 obtain ⟨G,A,ds,R,S,rfl,h1,h2,h3,h4,h5,_,_,h6⟩:=h
 have hk:∀ k,k<(ds.map ptrD).length→ds[k]?=some (ds[k]?.getD 0):=fun k hk=>by
  rw [List.length_map] at hk
  rw [List.getElem?_eq_getElem hk]
  rfl
 refine ⟨G,rfl,⟨A,ds.map ptrD,fun k=>ds[k]?.getD 0,R,S,h5,fun k hk'=>?_,fun i j hi hj hij=>?_,h3.sub ?_,fun x y hx hy=>?_⟩,h6⟩
 ·rw [List.getElem?_map,hk k hk']
  rfl
 ·have e1:=hk i hi
  simp only at hij
  rw [hij] at e1
  rw [List.length_map] at hi hj
  rw [List.getElem?_eq_getElem hi,List.getElem?_eq_getElem hj,Option.some.injEq] at e1
  have e:ds[i]=ds[j]:=e1
  rw [List.nodup_iff_pairwise_ne,List.pairwise_iff_getElem] at h2
  rcases Nat.lt_trichotomy i j with h | h | h
  ·exact absurd e (h2 i j hi hj h)
  ·exact h
  ·exact absurd e.symm (h2 j i hj hi h)
 ·rintro D ⟨k,hk',rfl⟩
  exact List.mem_of_getElem? (hk k hk')
 ·have hl:=idx_lt hx hy
  have hlt:(y*c+x).toNat<(ds.map ptrD).length:=by rw [List.length_map];omega
  rw [h4 _ _ (hk _ hlt)]
  congr 2
  omega
structure CutOk (K:Cut) (d n c r:Int):Prop where
 f1:0≤K.fx∧1≤K.fc∧K.fx+K.fc≤c
 f2:0≤K.fy∧1≤K.fr∧K.fy+K.fr≤r
 r1:0≤K.rx∧1≤K.rc∧K.rx+K.rc≤c
 r2:0≤K.ry∧1≤K.rr∧K.ry+K.rr≤r
 x1:0≤K.x∧K.x+K.fc≤K.rc
 y1:0≤K.y∧K.y+K.fr≤K.rr
 apart:(K.fx+K.fc≤K.rx∨K.rx+K.rc≤K.fx)∨K.fy+K.fr≤K.ry∨K.ry+K.rr≤K.fy
 new:K.rc=newC d n c∧K.rr=newR d n r
 back:∀ X Y,backX d n X=K.rx+X∧backY d n Y=K.ry+Y
def flapX (up:Bool) (K:Cut) (px:Int):Int:=if up=true then K.fx+K.fc-1-px else K.fx+px
def flapY (up:Bool) (K:Cut) (py:Int):Int:=if up=true then K.fy+py else K.fy+K.fr-1-py
theorem cut_ok {d n c r:Int} (h:Can d n c r):CutOk (cutOf d n c r) d n c r:=by
 have n1:=h.n1;have c1:=h.c1;have r1:=h.r1
 rcases h.cases with ⟨rfl,e⟩ | ⟨rfl,e⟩ | ⟨rfl,e⟩ | ⟨rfl,e⟩
 all_goals
  simp only [cutOf,if_true,if_false,show (2:Int)=1↔False by decide,show (3:Int)=1↔False by decide,show (3:Int)=2↔False by decide,show (4:Int)=1↔False by decide,show (4:Int)=2↔False by decide,show (4:Int)=3↔False by decide]
  refine ⟨?_,?_,?_,?_,?_,?_,?_,?_,fun X Y=>?_⟩
  all_goals
   simp [newC,newR,backX,backY]
   try omega
theorem cut_refl {d n c r:Int} (h:Can d n c r) {X Y:Int} (hX:0≤X∧X<newC d n c) (hY:0≤Y∧Y<newR d n r) :
  (((cutOf d n c r).x≤X∧X<(cutOf d n c r).x+(cutOf d n c r).fc)∧(cutOf d n c r).y≤Y∧Y<(cutOf d n c r).y+(cutOf d n c r).fr↔(0≤reflX d n c (backX d n X)∧reflX d n c (backX d n X)<c)∧0≤reflY d n r (backY d n Y)∧reflY d n r (backY d n Y)<r) ∧
   flapX (upM d) (cutOf d n c r) (X-(cutOf d n c r).x)=reflX d n c (backX d n X)∧flapY (upM d) (cutOf d n c r) (Y-(cutOf d n c r).y)=reflY d n r (backY d n Y):=by
 have n1:=h.n1;have c1:=h.c1;have r1:=h.r1
 rcases h.cases with ⟨rfl,e⟩ | ⟨rfl,e⟩ | ⟨rfl,e⟩ | ⟨rfl,e⟩
 all_goals
  simp [newC,newR] at hX hY
  simp [cutOf,reflX,reflY,backX,backY,flapX,flapY,upM]
  omega
theorem runS_upto {m:Nat} {under up:Bool} {tb hb:Ix m→Nat} {S:Nat→List Pc} (hap:∀ k j,tb k≠hb j) (ht:∀ k j,tb k=tb j→k=j) (hh:∀ k j,hb k=hb j→k=j):∀ n,n≤m →
  (∀ k:Ix m,runS under up tb hb (ixs m n) S (hb k)=if k.1<n then joinU under (S (hb k)) ((S (tb k)).reverse.map (flipP up)) else S (hb k))∧(∀ k:Ix m,n≤k.1→runS under up tb hb (ixs m n) S (tb k)=S (tb k))∧∀ D,(∀ k,D≠tb k)→(∀ k,D≠hb k)→runS under up tb hb (ixs m n) S D=S D:=by
 intro n
 induction n with
 | zero=>intro _;exact ⟨fun k=>by simp [ixs,runS],fun k _=>rfl,fun D _ _=>rfl⟩
 | succ n ih =>
  intro hn
  obtain ⟨h1,h2,h3⟩:=ih (by omega)
  rw [ixs_succ (by omega),runS_snoc]
  generalize runS under up tb hb (ixs m n) S=S' at *
  have hk0:∀ k:Ix m,k.1≠n→k≠⟨n,by omega⟩:=fun k h e=>h (by rw [e])
  have e0:=h1 ⟨n,by omega⟩
  rw [if_neg (Nat.lt_irrefl n)] at e0
  refine ⟨fun k=>?_,fun k hk=>?_,fun D hD1 hD2=>?_⟩
  ·by_cases e:k.1=n
   ·obtain ⟨k,hk⟩:=k
    simp only at e
    subst e
    rw [if_pos (Nat.lt_succ_self k)]
    unfold stepS
    rw [putS_at,e0,h2 ⟨k,hk⟩ (Nat.le_refl k)]
    rfl
   ·rw [stepS_far (fun e'=>hap _ _ e'.symm) (fun e'=>hk0 k e (hh _ _ e')),h1 k]
    by_cases e2:k.1<n
    ·rw [if_pos e2,if_pos (by omega)]
    ·rw [if_neg e2,if_neg (by omega)]
  ·have e:k.1≠n:=by omega
   rw [stepS_far (fun e'=>hk0 k e (ht _ _ e')) (hap _ _)]
   exact h2 k (by omega)
  ·rw [stepS_far (hD1 _) (hD2 _)]
   exact h3 D hD1 hD2
theorem wantPs_at {c col row pc pr:Int} {l:List Ptr} {x y:Int} (hx:0≤x∧x<pc) (hy:0≤y∧y<pr):(wantPs c col row pc pr l)[(y*pc+x).toNat]?=some (l[((row+y)*c+col+x).toNat]?.getD none):=by
 have hl:=idx_lt hx hy
 obtain ⟨t1,t2⟩:=td y x pc hy.1 hx.1 hx.2
 unfold wantPs
 rw [List.getElem?_map,List.getElem?_range (by omega)]
 simp only [Option.map_some,srcP]
 rw [show (((y*pc+x).toNat:Nat):Int)=y*pc+x by omega,t1,t2]
theorem wantMs_at {up:Bool} {c r:Int} {l:List Ptr} {x y:Int} (hx:0≤x∧x<c) (hy:0≤y∧y<r):(wantMs up c r l)[(y*c+x).toNat]?=some (l[((if up=true then y else r-1-y)*c+(if up=true then c-1-x else x)).toNat]?.getD none):=by
 have hl:=idx_lt hx hy
 obtain ⟨t1,t2⟩:=td y x c hy.1 hx.1 hx.2
 unfold wantMs
 rw [List.getElem?_map,List.getElem?_range (by omega)]
 simp only [Option.map_some,srcM]
 rw [show (((y*c+x).toNat:Nat):Int)=y*c+x by omega,t1,t2]
 cases up<;>simp
theorem flap_at {up:Bool} {K:Cut} {d n c r:Int} (hK:CutOk K d n c r) {L:List Ptr} {bk:Nat→Nat} (hl:(L.length:Int)=c*r) (hb:∀ k,k<L.length→L[k]?=some (ptrD (bk k))) {x y:Int} (hx:0≤x∧x<K.fc) (hy:0≤y∧y<K.fr) :
  (wantMs up K.fc K.fr (wantPs c K.fx K.fy K.fc K.fr L))[(y*K.fc+x).toNat]?=some (ptrD (bk (flapY up K y*c+flapX up K x).toNat)):=by
 have h1:=hK.f1;have h2:=hK.f2
 rw [wantMs_at hx hy]
 have hx':0≤(if up=true then K.fc-1-x else x)∧(if up=true then K.fc-1-x else x)<K.fc:=by split<;>omega
 have hy':0≤(if up=true then y else K.fr-1-y)∧(if up=true then y else K.fr-1-y)<K.fr:=by split<;>omega
 rw [wantPs_at hx' hy']
 have hi:=idx_lt (c:=c) (r:=r) (x:=K.fx+(if up=true then K.fc-1-x else x)) (y:=K.fy+(if up=true then y else K.fr-1-y)) (by omega) (by omega)
 rw [Int.add_assoc,hb _ (by omega)]
 simp only [Option.getD_some]
 congr 4
 cases up
 ·simp only [flapX,flapY,Bool.false_eq_true,if_false]
  congr 2
  omega
 ·simp only [flapX,flapY,if_true]
  omega
theorem rest_at {K:Cut} {d n c r:Int} (hK:CutOk K d n c r) {L:List Ptr} {bk:Nat→Nat} (hl:(L.length:Int)=c*r) (hb:∀ k,k<L.length→L[k]?=some (ptrD (bk k))) {x y:Int} (hx:0≤x∧x<K.rc) (hy:0≤y∧y<K.rr) :
  (wantPs c K.rx K.ry K.rc K.rr L)[(y*K.rc+x).toNat]?=some (ptrD (bk ((K.ry+y)*c+(K.rx+x)).toNat)):=by
 have h1:=hK.r1;have h2:=hK.r2
 rw [wantPs_at hx hy]
 have hi:=idx_lt (c:=c) (r:=r) (x:=K.rx+x) (y:=K.ry+y) (by omega) (by omega)
 rw [Int.add_assoc,hb _ (by omega)]
 rfl
theorem parted_any {w:World} {G A:Nat} {c r:Int} {L:List Ptr} (h:Gs w G A c r L) {d n:Int} (u:Bool) (hc:Can d n c r) :
  Calls Tryz.prog 138 #[.pointer (some ⟨G,0,none⟩),.agg #[.int .i64 d,.int .i64 n,.bool u]] w (PartedP w c L (cutOf d n c r)):=by
 rcases hc.cases with ⟨rfl,e⟩ | ⟨rfl,e⟩ | ⟨rfl,e⟩ | ⟨rfl,e⟩
 ·exact parted_left h n u hc.n1 e
 ·exact parted_right h n u hc.n1 e
 ·exact parted_foot h n u hc.n1 e
 ·exact parted_head h n u hc.n1 e
set_option maxHeartbeats 2000000 in
theorem sheet_after {w:World} {base G:Nat} {c r:Int} {P:Int→Int→List Pc} (h:Sheet w base G c r P) {d n:Int} (hc:Can d n c r) (u:Bool) (hlen:∀ x y,(0≤x∧x<c)→(0≤y∧y<r)→(P x y).length≤64) (hbase:base≤w.heap.size) :
  Calls Tryz.prog 120 #[.pointer (some ⟨G,0,none⟩),.agg #[.int .i64 d,.int .i64 n,.bool u]] w fun e w'=>∃ G',e=.returned (.pointer (some ⟨G',0,none⟩))∧Sheet w' base G' (newC d n c) (newR d n r) (foldPl d n u c r P)∧Below base w w':=by
 obtain ⟨A,L,bk,R,S,hG,hL,hinj,hD,hP⟩:=h
 have hl:=hG.len
 have hc64:=hG.c64;have hr64:=hG.r64
 have hK:=cut_ok hc
 have href:=fun {X Y:Int}=>cut_refl (X:=X) (Y:=Y) hc
 have KP:=fun (w':World) (hb:Below w.heap.size w w')=>parted_any (hG.up hb) u hc
 have hnew:=hK.new
 have hbk:=hK.back
 obtain ⟨K,hKd⟩:∃ K,cutOf d n c r=K:=⟨_,rfl⟩
 rw [hKd] at hK KP hnew hbk
 simp only [hKd] at href
 obtain ⟨up,hup⟩:∃ up,upM d=up:=⟨_,rfl⟩
 rw [hup] at href
 have f1:=hK.f1;have f2:=hK.f2;have r1:=hK.r1;have r2:=hK.r2;have x1:=hK.x1;have y1:=hK.y1;have hap:=hK.apart
 obtain ⟨F,hF⟩:∃ F,wantMs up K.fc K.fr (wantPs c K.fx K.fy K.fc K.fr L)=F:=⟨_,rfl⟩
 obtain ⟨LQ,hQ⟩:∃ LQ,wantPs c K.rx K.ry K.rc K.rr L=LQ:=⟨_,rfl⟩
 have hfl:F.length=(K.fc*K.fr).toNat:=by rw [←hF,wantMs_length]
 have hql:LQ.length=(K.rc*K.rr).toNat:=by rw [←hQ,wantPs_length]
 have hfp:0≤K.fc*K.fr:=Int.mul_nonneg (by omega) (by omega)
 have hqp:0≤K.rc*K.rr:=Int.mul_nonneg (by omega) (by omega)
 have hplace:∀ k:Ix F.length,∃ x y:Int,(k.1:Int).tmod K.fc=x∧(k.1:Int).tdiv K.fc=y∧(0≤x∧x<K.fc)∧(0≤y∧y<K.fr)∧y*K.fc+x=k.1:=fun k=>by
  obtain ⟨x,y,e1,e2,b0,b1,b2,b3,b4⟩:=split_place k.1 K.fc K.fr (by omega) (by have:=k.2;omega)
  exact ⟨x,y,e1,e2,⟨b0,b1⟩,⟨b2,b3⟩,b4⟩
 have hfx:∀ {x:Int},(0≤x∧x<K.fc)→K.fx≤flapX up K x∧flapX up K x<K.fx+K.fc:=fun hx=>by unfold flapX;split<;>omega
 have hfy:∀ {y:Int},(0≤y∧y<K.fr)→K.fy≤flapY up K y∧flapY up K y<K.fy+K.fr:=fun hy=>by unfold flapY;split<;>omega
 have hfxi:∀ {x x':Int},flapX up K x=flapX up K x'→x=x':=fun h=>by unfold flapX at h;split at h<;>omega
 have hfyi:∀ {y y':Int},flapY up K y=flapY up K y'→y=y':=fun h=>by unfold flapY at h;split at h<;>omega
 have hin:∀ {x y x' y':Int},(0≤x∧x<c)→(0≤y∧y<r)→(0≤x'∧x'<c)→(0≤y'∧y'<r)→bk (y*c+x).toNat=bk (y'*c+x').toNat→x=x'∧y=y':=fun hx hy hx' hy' e=>by
  have i1:=idx_lt hx hy
  have i2:=idx_lt hx' hy'
  exact idx_inj hx hy.1 hx' hy'.1 (hinj _ _ (by omega) (by omega) e)
 have hM:∀ {x y:Int},(0≤x∧x<c)→(0≤y∧y<r)→∃ k,k<L.length∧bk (y*c+x).toNat=bk k:=fun hx hy=>⟨_,by have:=idx_lt hx hy;omega,rfl⟩
 obtain ⟨tb,htb⟩:∃ tb:Ix F.length→Nat,tb=fun k=>bk (flapY up K ((k.1:Int).tdiv K.fc)*c+flapX up K ((k.1:Int).tmod K.fc)).toNat:=⟨_,rfl⟩
 obtain ⟨hb,hhb⟩:∃ hb:Ix F.length→Nat,hb=fun k=>bk ((K.ry+(K.y+(k.1:Int).tdiv K.fc))*c+(K.rx+(K.x+(k.1:Int).tmod K.fc))).toNat:=⟨_,rfl⟩
 have hT:∀ k:Ix F.length,F[k.1]'k.2=ptrD (tb k)∧∃ j,j<L.length∧tb k=bk j:=fun k=>by
  obtain ⟨x,y,e1,e2,hx,hy,e3⟩:=hplace k
  have hf:=flap_at (up:=up) hK hl hL hx hy
  rw [hF,e3,Int.toNat_natCast,List.getElem?_eq_getElem k.2,Option.some.injEq] at hf
  have g1:=hfx hx;have g2:=hfy hy
  rw [htb]
  simp only [e1,e2]
  exact ⟨hf,hM (by omega) (by omega)⟩
 have hH:∀ k:Ix F.length,hasB K.rc K.rr (K.x+(k.1:Int).tmod K.fc) (K.y+(k.1:Int).tdiv K.fc)=true∧LQ[at1 K.rc (K.x+(k.1:Int).tmod K.fc) (K.y+(k.1:Int).tdiv K.fc)]?=some (ptrD (hb k))∧∃ j,j<L.length∧hb k=bk j:=fun k=>by
  obtain ⟨x,y,e1,e2,hx,hy,e3⟩:=hplace k
  rw [hhb]
  simp only [e1,e2]
  refine ⟨by simp [hasB];omega,?_,hM (by omega) (by omega)⟩
  rw [←hQ]
  exact rest_at hK hl hL (by omega) (by omega)
 have hpart:∀ k j,tb k≠hb j:=fun k j e=>by
  obtain ⟨x,y,e1,e2,hx,hy,e3⟩:=hplace k
  obtain ⟨x',y',e1',e2',hx',hy',e3'⟩:=hplace j
  have g1:=hfx hx;have g2:=hfy hy
  rw [htb,hhb] at e
  simp only [e1,e2,e1',e2'] at e
  obtain ⟨q1,q2⟩:=hin (by omega) (by omega) (by omega) (by omega) e
  omega
 have hti:∀ k j,tb k=tb j→k=j:=fun k j e=>by
  obtain ⟨x,y,e1,e2,hx,hy,e3⟩:=hplace k
  obtain ⟨x',y',e1',e2',hx',hy',e3'⟩:=hplace j
  have g1:=hfx hx;have g2:=hfy hy;have g3:=hfx hx';have g4:=hfy hy'
  rw [htb] at e
  simp only [e1,e2,e1',e2'] at e
  obtain ⟨q1,q2⟩:=hin (by omega) (by omega) (by omega) (by omega) e
  obtain rfl:=hfxi q1
  obtain rfl:=hfyi q2
  exact Subtype.ext (by omega)
 have hhi:∀ k j,hb k=hb j→k=j:=fun k j e=>by
  obtain ⟨x,y,e1,e2,hx,hy,e3⟩:=hplace k
  obtain ⟨x',y',e1',e2',hx',hy',e3'⟩:=hplace j
  rw [hhb] at e
  simp only [e1,e2,e1',e2'] at e
  obtain ⟨q1,q2⟩:=hin (by omega) (by omega) (by omega) (by omega) e
  obtain rfl:x=x':=by omega
  obtain rfl:y=y':=by omega
  exact Subtype.ext (by omega)
 have hSl:∀ D,(∃ k,k<L.length∧D=bk k)→(S D).length≤64:=by
  rintro D ⟨k,hk,rfl⟩
  obtain ⟨x,y,e1,e2,b0,b1,b2,b3,b4⟩:=split_place k c r hc.c1 (by omega)
  have:=hP x y ⟨b0,b1⟩ ⟨b2,b3⟩
  rw [b4,Int.toNat_natCast] at this
  rw [this]
  exact hlen x y ⟨b0,b1⟩ ⟨b2,b3⟩
 have K1:Calls Tryz.prog 120 #[.pointer (some ⟨G,0,none⟩),.agg #[.int .i64 d,.int .i64 n,.bool u]] w fun e w'=>∃ Q QA R',e=.returned (.pointer (some ⟨Q,0,none⟩))∧Gs w' Q QA K.rc K.rr LQ∧Decks w' base (fun D=>∃ k,k<L.length∧D=bk k) R' (runS u up tb hb (ixs F.length F.length) S)∧w.heap.size≤Q∧w.heap.size≤QA∧Below base w w':=by
  by_cases hd:d=1
  ·subst hd
   obtain rfl:up=true:=by rw [←hup];rfl
   exact after_one n u K F LQ tb hb KP hF hQ hD hbase hT (by omega) hH hpart hSl
  ·exact after_more d n u up K F LQ tb hb (by simpa using hd) (by rw [←hup,Bool.eq_iff_iff];simp [upM,hd]) KP hF hQ hD hbase hT (by omega) hH hpart hSl
 refine K1.mono ?_
 rintro e w' ⟨Q,QA,R',rfl,hGQ,hD',_,_,hb'⟩
 refine ⟨Q,rfl,?_,hb'⟩
 rw [←hnew.1,←hnew.2]
 obtain ⟨u1,u2,u3⟩:=runS_upto (under:=u) (up:=up) (S:=S) hpart hti hhi F.length (Nat.le_refl _)
 have hq:∀ k,k<LQ.length→∃ x y:Int,(k:Int).tmod K.rc=x∧(k:Int).tdiv K.rc=y∧(0≤x∧x<K.rc)∧(0≤y∧y<K.rr)∧y*K.rc+x=k:=fun k hk=>by
  obtain ⟨x,y,e1,e2,b0,b1,b2,b3,b4⟩:=split_place k K.rc K.rr (by omega) (by omega)
  exact ⟨x,y,e1,e2,⟨b0,b1⟩,⟨b2,b3⟩,b4⟩
 refine ⟨QA,LQ,fun k=>bk ((K.ry+(k:Int).tdiv K.rc)*c+(K.rx+(k:Int).tmod K.rc)).toNat,R',_,hGQ,fun k hk=>?_,fun i j hi hj e=>?_,hD'.sub ?_,fun X Y hX hY=>?_⟩
 ·obtain ⟨x,y,e1,e2,hx,hy,e3⟩:=hq k hk
  have hr:=rest_at hK hl hL hx hy
  rw [hQ,e3,Int.toNat_natCast] at hr
  simp only [e1,e2]
  exact hr
 ·obtain ⟨x,y,e1,e2,hx,hy,e3⟩:=hq i hi
  obtain ⟨x',y',e1',e2',hx',hy',e3'⟩:=hq j hj
  simp only [e1,e2,e1',e2'] at e
  obtain ⟨q1,q2⟩:=hin (by omega) (by omega) (by omega) (by omega) e
  obtain rfl:x=x':=by omega
  obtain rfl:y=y':=by omega
  omega
 ·rintro D ⟨k,hk,rfl⟩
  obtain ⟨x,y,e1,e2,hx,hy,e3⟩:=hq k hk
  simp only [e1,e2]
  exact hM (by omega) (by omega)
 ·have hi:=idx_lt hX hY
  obtain ⟨t1,t2⟩:=td Y X K.rc hY.1 hX.1 hX.2
  have ecast:(((Y*K.rc+X).toNat:Nat):Int)=Y*K.rc+X:=by omega
  simp only [ecast,t1,t2]
  obtain ⟨c1,c2,c3⟩:=href (by rw [←hnew.1];exact hX) (by rw [←hnew.2];exact hY)
  have hP0:=hP (K.rx+X) (K.ry+Y) (by omega) (by omega)
  obtain ⟨k1,k2⟩:=hbk X Y
  unfold foldPl
  rw [←c2,←c3] at c1
  rw [hup,←c2,←c3,k1,k2]
  by_cases hin2:(K.x≤X∧X<K.x+K.fc)∧K.y≤Y∧Y<K.y+K.fr
  ·rw [if_pos (c1.1 hin2)]
   have hkl:=idx_lt (c:=K.fc) (r:=K.fr) (x:=X-K.x) (y:=Y-K.y) (by omega) (by omega)
   obtain ⟨s1,s2⟩:=td (Y-K.y) (X-K.x) K.fc (by omega) (by omega) (by omega)
   have hkn:((Y-K.y)*K.fc+(X-K.x)).toNat<F.length:=by omega
   have hu:=u1 ⟨_,hkn⟩
   rw [if_pos hkn] at hu
   have ek:((((Y-K.y)*K.fc+(X-K.x)).toNat:Nat):Int)=(Y-K.y)*K.fc+(X-K.x):=by omega
   have eh:hb ⟨_,hkn⟩=bk ((K.ry+Y)*c+(K.rx+X)).toNat:=by
    rw [hhb]
    simp only [ek,s1,s2]
    rw [show K.y+(Y-K.y)=Y by omega,show K.x+(X-K.x)=X by omega]
   have et:tb ⟨_,hkn⟩=bk (flapY up K (Y-K.y)*c+flapX up K (X-K.x)).toNat:=by
    rw [htb]
    simp only [ek,s1,s2]
   rw [eh,et] at hu
   have g1:=hfx (x:=X-K.x) (by omega);have g2:=hfy (y:=Y-K.y) (by omega)
   rw [hu,hP0,hP (flapX up K (X-K.x)) (flapY up K (Y-K.y)) (by omega) (by omega)]
  ·rw [if_neg (fun h=>hin2 (c1.2 h)),←hP0]
   refine u3 _ (fun k e=>?_) (fun k e=>?_)
   ·obtain ⟨x,y,e1,e2,hx,hy,e3⟩:=hplace k
    have g1:=hfx hx;have g2:=hfy hy
    rw [htb] at e
    simp only [e1,e2] at e
    obtain ⟨q1,q2⟩:=hin (by omega) (by omega) (by omega) (by omega) e
    omega
   ·obtain ⟨x,y,e1,e2,hx,hy,e3⟩:=hplace k
    rw [hhb] at e
    simp only [e1,e2] at e
    obtain ⟨q1,q2⟩:=hin (by omega) (by omega) (by omega) (by omega) e
    exact hin2 ⟨by omega,by omega⟩
end Go.Proofs.YtbbjileignefbaaGreatDoor
