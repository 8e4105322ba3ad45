/- Part 3 of the texts that the proofs of this seat share: SchemeRead, CloneRows, Job, But, Wide, JobAt, Pile. -/
import Derived.Test.YtbbjileignefbaaGreatDoorPart1
import Derived.Test.YtbbjileignefbaaGreatDoorPart2
import Derived.LoopN
import Derived.Lib.SliceRun
import GoSem.Core.Value
import Derived.WalkKit
import Derived.IntWalk
import Derived.Laws.AppendOwn
import Derived.Laws.IdiomCopy
import Derived.RangeFuncBox
import Derived.Deep.Upon
import Derived.Lib.Hide
import Derived.Deep.MidRow
import Derived.Laws.Tables
import Derived.BigQuiet
import Derived.Test.YtbbjileignefbaaGreatDoorProg
set_option linter.unusedVariables false
namespace Go.Proofs.YtbbjileignefbaaGreatDoor
open Go.RowKit DecMath
theorem Tryz.infoStep:(Tryz.prog.info? 58).map (fun i=>(i.zero,i.size,i.bytes))=some (some (.agg #[.int .i64 0,.int .i64 0,.bool false]),3,24):=by kernel_rfl
def flatS:List Sp→List Value
 | []=>[]
 | p :: l=>.int .i64 p.d :: .int .i64 p.n :: .bool p.u :: flatS l
theorem flatS_snoc (l:List Sp) (p:Sp):flatS (l++[p])=flatS l++[.int .i64 p.d,.int .i64 p.n,.bool p.u]:=by
 induction l with
 | nil=>rfl
 | cons q l ih=>simp [flatS,ih]
theorem flatS_length (l:List Sp):(flatS l).length=l.length*3:=by
 induction l with
 | nil=>rfl
 | cons q l ih=>simp [flatS,ih];omega
theorem flatS_at (l:List Sp):∀ (j:Nat) (p:Sp),l[j]?=some p→(flatS l)[j*3]?=some (.int .i64 p.d)∧(flatS l)[j*3+1]?=some (.int .i64 p.n)∧(flatS l)[j*3+2]?=some (.bool p.u):=by
 induction l with
 | nil=>intro j p h;simp at h
 | cons q l ih =>
  intro j p h
  cases j with
  | zero=>simp at h;subst h;exact ⟨rfl,rfl,rfl⟩
  | succ j =>
   obtain ⟨h0,h1,h2⟩:=ih j p (by simpa using h)
   have e:(j+1)*3=j*3+1+1+1:=by omega
   rw [e]
   refine ⟨?_,?_,?_⟩
   ·simpa [flatS] using h0
   ·simpa [flatS] using h1
   ·simpa [flatS] using h2
def rowP (w:World) (base:Nat) (v:Value) (l:List Sp):Prop:=w.ownsRow base 58 3 v l.length (flatS l)
theorem rowP_nil (w:World) (base:Nat):rowP w base (.slice none 0 0) []:=World.ownsRow_nil _ _ _ _
theorem rowP.kept {w w':World} {base:Nat} {v:Value} {l:List Sp} (h:rowP w base v l) (hb:∀ k,base≤k→k<w.heap.size→w'.heap[k]?=w.heap[k]?):rowP w' base v l:=own_kept h hb
theorem rowP.up {w w':World} {base:Nat} {v:Value} {l:List Sp} (h:rowP w base v l) (hb:Below w.heap.size w w'):rowP w' base v l:=h.kept fun k _ hk=>hb.block k hk
theorem rowP.steps {w:World} {base:Nat} {v:Value} {l:List Sp} (h:rowP w base v l):∃ a cap,v=.slice a l.length cap∧InL w a l:=by
 rcases h.2 with ⟨rfl,h0⟩ | ⟨g,cap,cur,rfl,hb,hg,hcap,hmax,hsz,htk⟩
 ·exact ⟨none,0,by rw [h0],.inl (List.eq_nil_of_length_eq_zero h0)⟩
 ·refine ⟨some ⟨g,0,none⟩,cap,rfl,.inr ⟨g,0,rfl,fun j p hp=>?_⟩⟩
  obtain ⟨h0,h1,h2⟩:=flatS_at l j p hp
  have e:∀ i,(⟨g,0,none⟩:Addr).add i=⟨g,i,none⟩:=fun i=>by unfold Addr.add;split<;>simp_all
  have c0:=h.cells (g:=g) rfl _ _ h0
  have c1:=h.cells (g:=g) rfl _ _ h1
  have c2:=h.cells (g:=g) rfl _ _ h2
  rw [e] at c0 c1 c2
  simpa using ⟨c0,c1,c2⟩
theorem rowP.inL {w:World} {base:Nat} {a:Option Addr} {n c:Nat} {l:List Sp} (h:rowP w base (.slice a n c) l):InL w a l:=by
 obtain ⟨a',c',e,hL⟩:=h.steps
 injection e with e1 e2 e3
 rw [e1]
 exact hL
def InF (base:Nat) (w:World) (a:Option Addr) (l:List Sp):Prop:=l=[]∨∃ b off,a=some ⟨b,off,none⟩∧base≤b∧InS w b off l
theorem InF.inL {base:Nat} {w:World} {a:Option Addr} {l:List Sp} (h:InF base w a l):InL w a l:=h.imp id fun ⟨b,off,e,_,h⟩=>⟨b,off,e,h⟩
theorem InF.mono {base base':Nat} {w:World} {a:Option Addr} {l:List Sp} (h:InF base w a l) (hb:base'≤base):InF base' w a l:=h.imp id fun ⟨b,off,e,h0,h⟩=>⟨b,off,e,by omega,h⟩
theorem InF.up {base:Nat} {w w':World} {a:Option Addr} {l:List Sp} (h:InF base w a l) (hb:Below w.heap.size w w'):InF base w' a l:=h.imp id fun ⟨b,off,e,h0,h⟩=>⟨b,off,e,h0,h.up hb⟩
theorem InF.set {base:Nat} {w:World} {a:Option Addr} {l:List Sp} (h:InF base w a l) {p:Addr} (hp:p.block<base) (x:Value):InF base (w.setCell p x) a l:=h.imp id fun ⟨b,off,e,h0,h⟩=>⟨b,off,e,h0,fun j q hq=>by
 obtain ⟨c0,c1,c2⟩:=h j q hq
 have hf:∀ o v,w.cell? ⟨b,o,none⟩=some v→(w.setCell p x).cell? ⟨b,o,none⟩=some v:=fun o v hv=>(World.cell?_setCell_far _ _ _ _ (by simp only;omega)).trans hv
 exact ⟨hf _ _ c0,hf _ _ c1,hf _ _ c2⟩⟩
theorem rowP.inF {w:World} {base:Nat} {a:Option Addr} {n c:Nat} {l:List Sp} (h:rowP w base (.slice a n c) l):InF base w a l:=by
 rcases h.inL with h' | ⟨b,off,rfl,h'⟩
 ·exact .inl h'
 ·exact .inr ⟨b,off,rfl,by
   rcases h.2 with ⟨e,_⟩ | ⟨g,cap,cur,e,hb,_⟩
   ·cases e
   ·injection e with e1;injection e1 with e1;injection e1 with e1;omega,h'⟩
theorem rowP.set {w:World} {base:Nat} {v:Value} {l:List Sp} (h:rowP w base v l) {p:Addr} (hp:p.block<base) (x:Value):rowP (w.setCell p x) base v l:=h.kept fun j hj _=>Below.heap_setCell _ _ _ _ (by omega)
theorem cells_three (w:World) (x y z:Value) (t:TypeId):∀ j u,[x,y,z][j]?=some u→(w.alloc (.cells #[x,y,z] t)).cell? ((⟨w.heap.size,0,none⟩:Addr).add j)=some u:=by
 intro j u hj
 match j,hj with
 | 0,hj=>simp at hj;subst hj;simp [Addr.add]
 | 1,hj=>simp at hj;subst hj;simp [Addr.add]
 | 2,hj=>simp at hj;subst hj;simp [Addr.add]
 | j+3,hj=>simp at hj
theorem wpList_append_step {u:World} {ops:Array Oper} {rest:List Oper} {o:Oper} {a:Act} {Q:Exit→Act→World→Prop} (hgd:o.guard=none) (s x:Operand)
  (ho:o.op=.call { callee:=.builtin .append,args:=#[s,x],argTypes:=#[24,24] })
  (base:Nat) (v:Value) (l:List Sp) (hs:a.eval s=v) (hown:rowP u base v l) (hbase:base≤u.heap.size)
  (d n:Int) (b:Bool) (H:Nat) (hH:u.heap.size=H) (hx:a.eval x=.slice (some ⟨H,0,none⟩) 1 1) (hl:l.length≤1000000)
  (h:∀ g cap w',rowP w' base (.slice (some ⟨g,0,none⟩) (l.length+1) cap) (l++[⟨d,n,b⟩])→Below base u w'→wpList Tryz.prog ops Q rest (a.put o.dst (.slice (some ⟨g,0,none⟩) (l.length+1) cap)) w'):wpList Tryz.prog ops Q (o :: rest) a (u.alloc (.cells #[.int .i64 d,.int .i64 n,.bool b] 58)):=by
 subst hH
 obtain ⟨i0,hi,hz0,hz1,hz2⟩:=info_parts Tryz.infoStep
 refine wpList_append_lies _ hgd s x 24 ho base 58 i0 _ 3 24 Tryz.underlying24 hi hz0 hz1 hz2 rfl (by omega) v l.length _ hs (World.ownsRow.alloc hown _) ⟨u.heap.size,0,none⟩ 1 1 [.int .i64 d,.int .i64 n,.bool b] hx rfl ?_ ?_ (by omega) (by unfold maxLen;omega) (by omega) (by simp;omega) _ rfl ?_
 ·exact cells_three u _ _ _ _
 ·intro y hy;simp at hy;rcases hy with rfl | rfl | rfl<;>rfl
 intro g cap w1 hown1 hgrow hat hlt
 refine h g cap w1 ?_ (Below.grown ((Below.refl _ _).alloc hbase _) hgrow (by simp;omega) (fun k hk=>(hown.lt k hk).1))
 unfold rowP
 rw [List.length_append,flatS_snoc]
 exact hown1
theorem Bx.low {w w':World} {B base:Nat} {vs:List Value} (h:Bx w B vs) (hB:B<base) (hb:Below base w w'):Bx w' B vs :=
 ⟨fun j v hj=>(hb.cell (p:=⟨B,j,none⟩) hB).trans (h.1 j v hj),fun j=>(hb.frozen (p:=⟨B,j,none⟩) hB).trans (h.2 j)⟩
def TxA (w:World) (a:Option Addr) (c:Nat) (ls:List (List UInt8)):Prop :=
 ls=[]∨∃ g o,a=some ⟨g,o,none⟩∧(∀ i l,ls[i]?=some l→w.cell? ⟨g,o+i,none⟩=some (.string (tx l)))∧ls.length≤c∧c≤maxLen
theorem TxA.up {w w':World} {a:Option Addr} {c:Nat} {ls:List (List UInt8)} (h:TxA w a c ls) (hb:Below w.heap.size w w'):TxA w' a c ls:=by
 rcases h with h | ⟨g,o,h1,h2,h3⟩
 ·exact .inl h
 ·exact .inr ⟨g,o,h1,fun i l hi=>bl_cell hb (h2 i l hi),h3⟩
theorem TxS.arg {w:World} {v:Value} {ls:List (List UInt8)} (h:TxS w v ls):∃ a c,v=.slice a ls.length c∧TxA w a c ls:=by
 obtain ⟨a,c,rfl,h⟩:=h
 refine ⟨a,c,rfl,?_⟩
 rcases h with h | ⟨g,h1,h2,h3⟩
 ·exact .inl h
 ·exact .inr ⟨g,0,h1,fun i l hi=>by rw [Nat.zero_add];exact h2 i l hi,h3⟩
def GivesS (F:Option Sc) (w:World) (e:Ending) (w':World):Prop :=
 ∃ a cap,e=.returned (.tuple #[.agg #[.int .i64 (F.getD zeroSc).c,.int .i64 (F.getD zeroSc).r,.slice a (F.getD zeroSc).l.length cap],.bool F.isSome])∧InF w.heap.size w' a (F.getD zeroSc).l∧Below w.heap.size w w'
theorem gives_none {w w':World} (hb:Below w.heap.size w w'):GivesS none w (.returned (.tuple #[.agg #[.int .i64 0,.int .i64 0,.slice none 0 0],.bool false])) w':=⟨none,0,rfl,.inl rfl,hb⟩
def Mx (w:World):Prop:=∃ m,w.cell? ⟨2,0,none⟩=some (.int .i64 m)
theorem Mx.below {w w':World} (h:Mx w) (hb:Below w.heap.size w w'):Mx w':=h.imp fun m hm=>bl_cell hb hm
def GoodM (w:World):Prop:=Good w∧Mx w
theorem GoodM.below {w w':World} (h:GoodM w) (hb:Below w.heap.size w w'):GoodM w':=⟨h.1.below hb,h.2.below hb⟩
theorem up_drewN {a w:World} (h:Below a.heap.size a w):∀ n,Below a.heap.size a (w.drewN n)
 | 0=>h
 | n+1=>up_drew (up_drewN h n)
theorem schRead_len (a:Option Addr) (n cap:Nat) (w:World) (u:Bool) (hu:(decide ((1:Int)≤(n:Int))&&decide ((n:Int)≤7))=u) (h:u=false) :
  Calls Tryz.prog 78 #[.slice a n cap] w (GivesS none w):=by
 have K:=fun w=>in_any (n:Int) 1 7 w
 rw [hu,h] at K
 have HK:=Lib.hid K
 clear K hu h
 go_enter Tryz.func78,Tryz.ntmps78
 go_wp2_with fail
 refine (HK.out _).mono ?_
 rintro e w1 ⟨rfl,rfl⟩
 go_wp2
 refine bodyPost_ret (v:=.tuple #[.agg #[.int .i64 0,.int .i64 0,.slice none 0 0],.bool false]) (by simp [results,Tryz.results78,go_sem]) rfl (gives_none ?_)
 repeat (first | (with_reducible exact Below.refl _ _) | (with_reducible apply up_alloc) | (with_reducible refine up_set ?_ (by simp only;omega) _))
set_option maxHeartbeats 1000000 in
theorem schRead_sides (g o n cap:Nat) (X P Q:ByteArray) (f:Bool) (c r:Int) (u1 u2:Bool) (w:World) (hx:w.cell? ⟨g,o,none⟩=some (.string X)) (hn:1≤n) (hn7:n≤7) (hu:u1=false∨u2=false) (hg:GoodM w)
  (KC:∀ w,Mx w→Calls Tryz.prog 88 #[.string X,.string ⟨#[120]⟩] w fun e w'=>e=.returned (.tuple #[.string P,.string Q,.bool f])∧Below w.heap.size w w')
  (KP:∀ w,Good w→Calls Tryz.prog 89 #[.string P,.int .i64 1,.int .i64 64] w fun e w'=>e=.returned (.tuple #[.int .i64 c,.bool u1])∧Below w.heap.size w w')
  (KQ:∀ w,Good w→Calls Tryz.prog 89 #[.string Q,.int .i64 1,.int .i64 64] w fun e w'=>e=.returned (.tuple #[.int .i64 r,.bool u2])∧Below w.heap.size w w') :
  Calls Tryz.prog 78 #[.slice (some ⟨g,o,none⟩) n cap] w (GivesS none w):=by
 have K:=fun w=>in_any (n:Int) 1 7 w
 rw [show (decide ((1:Int)≤(n:Int))&&decide ((n:Int)≤7))=true by simp;omega] at K
 have HK:=Lib.hid K;have HC:=Lib.hid KC;have HP:=Lib.hid KP;have HQ:=Lib.hid KQ;have G:=Lib.hid hg
 clear K KC KP KQ hg
 go_enter Tryz.func78,Tryz.ntmps78
 have A:=Bx.new w 26 [.int .i64 0,.int .i64 0,.slice none 0 0]
 have B0:=Lib.hid (up_alloc (Below.refl _ w) (.cells #[.int .i64 0,.int .i64 0,.slice none 0 0] 26))
 have x0:=bl_cell B0.out hx
 have G0:=Lib.hid (G.out.below B0.out)
 go_wp2_with fail
 refine (HK.out _).mono ?_
 rintro e w1 ⟨rfl,rfl⟩
 go_wp2_with fail
 refine (HC.out _ G0.out.2).mono ?_
 rintro e w1 ⟨rfl,hb⟩
 have A1:=A.up hb
 have G1:=Lib.hid (G0.out.below hb)
 have B1:=Lib.hid (up_trans B0.out hb)
 clear hb A
 go_wp2_with fail
 refine (HP.out _ G1.out.1).mono ?_
 rintro e w2 ⟨rfl,hb⟩
 have A2:=A1.up hb
 have G2:=Lib.hid (G1.out.below hb)
 have B2:=Lib.hid (up_trans B1.out hb)
 clear hb A1
 go_wp2_with fail
 refine (HQ.out _ G2.out.1).mono ?_
 rintro e w3 ⟨rfl,hb⟩
 have A3:=A2.up hb
 have B3:=Lib.hid (up_trans B2.out hb)
 clear hb A2
 have a0:=A3.cell 0 rfl;have a1:=A3.cell 1 rfl;have a2:=A3.cell 2 rfl;have af:=A3.free
 clear A3
 cases u1
 ·clear hu
  go_wp2
  refine bodyPost_ret (v:=.tuple #[.agg #[.int .i64 0,.int .i64 0,.slice none 0 0],.bool false]) (by simp [results,Tryz.results78,go_sem,a0,a1,a2]) rfl (gives_none ?_)
  have B4:=B3.out
  repeat (first | (with_reducible exact B4) | (with_reducible refine up_set ?_ (by simp only;omega) _))
 ·obtain rfl:u2=false:=by simpa using hu
  clear hu
  go_wp2
  refine bodyPost_ret (v:=.tuple #[.agg #[.int .i64 0,.int .i64 0,.slice none 0 0],.bool false]) (by simp [results,Tryz.results78,go_sem,a0,a1,a2]) rfl (gives_none ?_)
  have B4:=B3.out
  repeat (first | (with_reducible exact B4) | (with_reducible refine up_set ?_ (by simp only;omega) _))
def ReadRel (ts:List (List UInt8)) (n:Nat) (c r:Int) (F:Option (List Sp)) (R B base:Nat) (w:World) (i:Value) (wr:World):Prop :=
 ∃ (k:Nat) (l:List Sp) (v:Value),k≤n∧i=.int .i64 (k:Int)∧l.length=k∧Bx wr B [.int .i64 c,.int .i64 r,v]∧rowP wr base v l∧Bx wr R [.int .i64 0,.int .i64 0,.slice none 0 0]∧base≤wr.heap.size∧Below w.heap.size w wr∧Hid ((stepsM (ts.drop k)).map (fun m=>l++m)=F)
theorem steps_yes {x:List UInt8} {r:List (List UInt8)} {l:List Sp} (h:(getS x).2=true):(stepsM (x :: r)).map (fun m=>l++m)=(stepsM r).map (fun m=>(l++[(getS x).1])++m):=by
 rw [stepsM,if_pos h,Option.map_map]
 congr 1
 funext m
 simp
theorem steps_no {x:List UInt8} {r:List (List UInt8)} {l:List Sp} (h:(getS x).2=false):(stepsM (x :: r)).map (fun m=>l++m)=none:=by
 rw [stepsM,if_neg (by simp [h])]
 rfl
theorem drop_one {α:Type} {l:List α} {k:Nat} {x:α} (h:l[k]?=some x):l.drop k=x :: l.drop (k+1):=by
 obtain ⟨hlt,rfl⟩:=List.getElem?_eq_some_iff.1 h
 exact List.drop_eq_getElem_cons hlt
set_option maxRecDepth 100000 in
set_option maxHeartbeats 4000000 in
theorem schRead_good (g o n cap:Nat) (X P Q:ByteArray) (f:Bool) (c r:Int) (ts:List (List UInt8)) (w:World) (hx:w.cell? ⟨g,o,none⟩=some (.string X)) (hts:∀ i l,ts[i]?=some l→w.cell? ⟨g,o+(1+i),none⟩=some (.string (tx l))) (hn:ts.length=n) (hn6:n≤6) (hcap:n+1≤cap) (hcm:cap≤maxLen) (hz:∀ x∈ts,x.length≤1000000) (hg:GoodM w)
  (F:Option (List Sp)) (hF:stepsM ts=F)
  (KC:∀ w,Mx w→Calls Tryz.prog 88 #[.string X,.string ⟨#[120]⟩] w fun e w'=>e=.returned (.tuple #[.string P,.string Q,.bool f])∧Below w.heap.size w w')
  (KP:∀ w,Good w→Calls Tryz.prog 89 #[.string P,.int .i64 1,.int .i64 64] w fun e w'=>e=.returned (.tuple #[.int .i64 c,.bool true])∧Below w.heap.size w w')
  (KQ:∀ w,Good w→Calls Tryz.prog 89 #[.string Q,.int .i64 1,.int .i64 64] w fun e w'=>e=.returned (.tuple #[.int .i64 r,.bool true])∧Below w.heap.size w w') :
  Calls Tryz.prog 78 #[.slice (some ⟨g,o,none⟩) (n+1) cap] w (GivesS (F.map fun l=>⟨c,r,l⟩) w):=by
 have K:=fun w=>in_any ((n+1:Nat):Int) 1 7 w
 rw [show (decide ((1:Int)≤((n+1:Nat):Int))&&decide (((n+1:Nat):Int)≤7))=true by simp;omega] at K
 have HK:=Lib.hid K;have HC:=Lib.hid KC;have HP:=Lib.hid KP;have HQ:=Lib.hid KQ;have G:=Lib.hid hg;have HF:=Lib.hid hF;have HN:=Lib.hid hn;have HTS:=Lib.hid hts;have HZ:=Lib.hid hz
 clear K KC KP KQ hg hF hn hts hz
 unfold maxLen at hcm
 go_enter Tryz.func78,Tryz.ntmps78
 have A:=Bx.new w 26 [.int .i64 0,.int .i64 0,.slice none 0 0]
 have B0:=Lib.hid (up_alloc (Below.refl _ w) (.cells #[.int .i64 0,.int .i64 0,.slice none 0 0] 26))
 have x0:=bl_cell B0.out hx
 have G0:=Lib.hid (G.out.below B0.out)
 go_wp2_with fail
 refine (HK.out _).mono ?_
 rintro e w1 ⟨rfl,rfl⟩
 go_wp2_with fail
 refine (HC.out _ G0.out.2).mono ?_
 rintro e w1 ⟨rfl,hb⟩
 have A1:=A.up hb
 have G1:=Lib.hid (G0.out.below hb)
 have B1:=Lib.hid (up_trans B0.out hb)
 clear hb A
 go_wp2_with fail
 refine (HP.out _ G1.out.1).mono ?_
 rintro e w2 ⟨rfl,hb⟩
 have A2:=A1.up hb
 have G2:=Lib.hid (G1.out.below hb)
 have B2:=Lib.hid (up_trans B1.out hb)
 clear hb A1
 go_wp2_with fail
 refine (HQ.out _ G2.out.1).mono ?_
 rintro e w3 ⟨rfl,hb⟩
 have A3:=A2.up hb
 have B3:=Lib.hid (up_trans B2.out hb)
 clear hb A2
 by_cases hcap1:cap=1
 ·obtain rfl:n=0:=by omega
  subst hcap1
  have E:=Lib.hid (show F=some [] by rw [←HF.out,List.eq_nil_of_length_eq_zero HN.out];rfl)
  have A4:=A3.alloc (.cells #[.int .i64 c,.int .i64 r,.slice none 0 0] 26)
  have HB4:=Lib.hid (up_alloc B3.out (.cells #[.int .i64 c,.int .i64 r,.slice none 0 0] 26))
  have a0:=A4.cell 0 rfl;have a1:=A4.cell 1 rfl;have a2:=A4.cell 2 rfl;have af:=A4.free
  clear A3 A4
  go_wp2
  refine wp_loop_rounds 1 ?_
  rw [rounds_succ]
  go_wp2
  rw [E.out]
  refine bodyPost_ret (v:=.tuple #[.agg #[.int .i64 c,.int .i64 r,.slice none 0 0],.bool true]) (by simp [results,Tryz.results78,go_sem,a0,a1,a2]) rfl ⟨none,0,rfl,.inl rfl,?_⟩
  have B5:=HB4.out
  repeat (first | (with_reducible exact B5) | (with_reducible refine up_set ?_ (by simp only;omega) _))
 have AR:=A3.alloc (.cells #[.int .i64 c,.int .i64 r,.slice none 0 0] 26)
 have AB:=Bx.new w3 26 [.int .i64 c,.int .i64 r,.slice none 0 0]
 have HB4:=Lib.hid (up_alloc B3.out (.cells #[.int .i64 c,.int .i64 r,.slice none 0 0] 26))
 have hsz:(w3.alloc (.cells #[.int .i64 c,.int .i64 r,.slice none 0 0] 26)).heap.size=w3.heap.size+1:=by simp
 have hlt3:w.heap.size<w3.heap.size:=A3.lt
 obtain ⟨B,hB⟩:∃ B,w3.heap.size=B:=⟨_,rfl⟩
 have HAR:=Lib.hid AR;have HAB:=Lib.hid AB
 rw [hB] at hsz HAB hlt3
 have HSZ:=Lib.hid hsz
 clear A3 AR AB hsz
 go_wp2
 clear hB
 generalize hw4:(w3.alloc (.cells #[.int .i64 c,.int .i64 r,.slice none 0 0] 26))=w4 at *
 clear hw4
 go_loopw [52] (fun i wr=>ReadRel ts n c r F w.heap.size B (B+1) w i wr) (fun i _=>n-(intOf i).toNat)
 case atStart=>exact ⟨0,[],_,by omega,by go_num,rfl,HAB.out,rowP_nil _ _,HAR.out,by rw [HSZ.out];omega,HB4.out,Lib.hid (by rw [←HF.out];simp)⟩
 case round =>
  obtain ⟨k,l,v,hk,rfl,hlk,AB,hrow,AR,hbase,hb,HM⟩:=hrel
  by_cases hlt:k<n
  ·obtain ⟨x,hx⟩:∃ x,ts[k]?=some x:=⟨ts[k]'(by rw [HN.out];exact hlt),List.getElem?_eq_getElem _⟩
   have hcx:=bl_cell hb (HTS.out k x hx)
   rw [←Nat.add_assoc] at hcx
   have hzx:=HZ.out x (List.mem_of_getElem? hx)
   have hd:=drop_one hx
   have KS:=fun w h=>stepGet_any (tx x) w (by rw [tx_size];omega) h
   rw [data_tx] at KS
   have z0:(0:Int)≤(k:Int):=by omega
   have z1:(k:Int)<(n:Int):=by omega
   have HR:=Lib.hid hrow;have HBB:=Lib.hid hb;have HABk:=Lib.hid AB;have HARk:=Lib.hid AR;have HLK:=Lib.hid hlk
   clear hrow hb AB AR hlk
   cases hs:(getS x).2
   ·have E:=Lib.hid (show F=none by rw [←HM.out,hd];exact steps_no hs)
    rw [hs] at KS
    generalize (getS x).1=p at *
    obtain ⟨pd,pn,pu⟩:=p
    generalize tx x=T at *
    simp only at KS
    have HS:=Lib.hid KS
    clear KS hs hd HM hzx
    go_wp2_with fail
    refine (HS.out _ (G.out.1.below HBB.out)).mono ?_
    rintro e w5 ⟨rfl,hb5⟩
    have A5:=(HARk.out.up hb5).alloc (.cells #[.int .i64 pd,.int .i64 pn,.bool pu] 58)
    have B5:=Lib.hid (up_alloc (up_trans HBB.out hb5) (.cells #[.int .i64 pd,.int .i64 pn,.bool pu] 58))
    have a0:=A5.cell 0 rfl;have a1:=A5.cell 1 rfl;have a2:=A5.cell 2 rfl;have af:=A5.free
    clear A5 hb5 hcx
    go_wp2
    refine bodyPost_ret (v:=.tuple #[.agg #[.int .i64 0,.int .i64 0,.slice none 0 0],.bool false]) (by simp [results,Tryz.results78,go_sem,a0,a1,a2]) rfl ?_
    rw [E.out]
    refine gives_none ?_
    have B6:=B5.out
    repeat (first | (with_reducible exact B6) | (with_reducible refine up_set ?_ (by simp only;omega) _))
   ·obtain ⟨av,cv,rfl,-⟩:=HR.out.steps
    have E:=Lib.hid (show (stepsM (ts.drop (k+1))).map (fun m=>(l++[(getS x).1])++m)=F by rw [←HM.out,hd];exact (steps_yes hs).symm)
    rw [hs] at KS
    generalize (getS x).1=p at *
    obtain ⟨pd,pn,pu⟩:=p
    generalize tx x=T at *
    simp only at KS
    have HS:=Lib.hid KS
    clear KS hs hd HM hzx
    go_wp2_with fail
    refine (HS.out _ (G.out.1.below HBB.out)).mono ?_
    rintro e w5 ⟨rfl,hb5⟩
    have A5:=(HABk.out.up hb5).alloc (.cells #[.int .i64 pd,.int .i64 pn,.bool pu] 58)
    have R5:=(HARk.out.up hb5).alloc (.cells #[.int .i64 pd,.int .i64 pn,.bool pu] 58)
    have B5:=Lib.hid (up_alloc (up_trans HBB.out hb5) (.cells #[.int .i64 pd,.int .i64 pn,.bool pu] 58))
    have P5:=Lib.hid ((HR.out.up hb5).up (up_alloc (Below.refl _ _) (.cells #[.int .i64 pd,.int .i64 pn,.bool pu] 58)))
    have S5:B+1≤(w5.alloc (.cells #[.int .i64 pd,.int .i64 pn,.bool pu] 58)).heap.size:=by have:=hb5.size;simp;omega
    have a2:=A5.cell 2 rfl
    have HA5:=Lib.hid A5;have HR5:=Lib.hid R5;have HS5:=Lib.hid S5
    clear hb5 hcx A5 R5 S5
    go_wp2_with (at_builtin;refine wpList_append_step rfl _ _ rfl (B+1) (.slice av l.length cv) l rfl P5.out HS5.out pd pn pu _ (World.size_alloc _ _) rfl ?c1 ?_)
    case c1=>rw [HLK.out];omega
    intro g6 cap6 w6 hrow6 hb6
    have A6:=HA5.out.low (Nat.lt_succ_self _) hb6
    have R6:=HR5.out.low (by omega) hb6
    have a2':=A6.cell 2 rfl;have af:=A6.free
    have HA6:=Lib.hid A6;have HR6:=Lib.hid R6;have HB6:=Lib.hid hb6;have HW6:=Lib.hid hrow6
    clear A6 R6 hb6 hrow6 a2
    go_wp2
    go_roundw
    case rel =>
     refine ⟨k+1,l++[⟨pd,pn,pu⟩],_,by omega,by go_num,by simp [HLK.out],HA6.out.set 2 _,HW6.out.set (by simp only;omega) _,HR6.out.far (by simp only;omega) _,?_,?_,E⟩
     ·have:=HB6.out.size;have:=HS5.out;simp [World.setCell];omega
     ·exact up_set (B5.out.trans (HB6.out.mono (by omega))) (by simp only;omega) _
    case measure=>simp [intOf];omega
  ·obtain rfl:k=n:=by omega
   subst hlk
   have E:=Lib.hid (show F=some l by rw [←HM.out,List.drop_of_length_le (by rw [HN.out];omega)];simp [stepsM])
   obtain ⟨av,cv,rfl,-⟩:=hrow.steps
   have HR:=Lib.hid hrow;have HBB:=Lib.hid hb
   have b0:=AB.cell 0 rfl;have b1:=AB.cell 1 rfl;have b2:=AB.cell 2 rfl
   have a0:=AR.cell 0 rfl;have a1:=AR.cell 1 rfl;have a2:=AR.cell 2 rfl;have af:=AR.free
   clear hrow AB AR hb
   go_wp2
   rw [E.out]
   refine bodyPost_ret (v:=.tuple #[.agg #[.int .i64 c,.int .i64 r,.slice av l.length cv],.bool true]) (by simp [results,Tryz.results78,go_sem,a0,a1,a2]) rfl ⟨av,cv,rfl,?_,?_⟩
   ·have HR6:=HR.out
    show InF _ _ av l
    refine InF.mono (base:=B+1) (rowP.inF (n:=l.length) (c:=cv) ?_) (by omega)
    repeat (first | (with_reducible exact HR6) | (with_reducible refine rowP.set ?_ (by simp only;omega) _))
   ·have B6:=HBB.out
    repeat (first | (with_reducible exact B6) | (with_reducible refine up_set ?_ (by simp only;omega) _))
theorem cut_flag (x:List UInt8) (hx:x.length≤1000000):∃ f,∀ w,Mx w→Calls Tryz.prog 88 #[.string (tx x),.string ⟨#[120]⟩] w fun e w'=>e=.returned (.tuple #[.string (tx (cutX x).1),.string (tx (cutX x).2),.bool f])∧Below w.heap.size w w':=by
 refine ⟨(Lib.cut x [120]).2.2,fun w hm=>?_⟩
 obtain ⟨m,hm⟩:=hm
 refine (Tryz.strings_Cut (tx x) ⟨#[120]⟩ m w (by rw [tx_size];omega) hm).mono ?_
 rintro e w' ⟨rfl,n,rfl⟩
 refine ⟨?_,up_drewN (Below.refl _ _) n⟩
 rw [data_tx,show (⟨#[120]⟩:ByteArray).data.toList=[120] from rfl,←cutX_lib]
 rfl
theorem cutX_length (x:List UInt8):(cutX x).1.length≤x.length∧(cutX x).2.length≤x.length:=by
 induction x with
 | nil=>simp [cutX]
 | cons c r ih =>
  unfold cutX
  split
  ·simp
  ·simp only [List.length_cons];omega
theorem within_any (x:List UInt8) (hx:x.length≤1000000) (w:World) (h:Good w) :
  Calls Tryz.prog 89 #[.string (tx x),.int .i64 1,.int .i64 64] w fun e w'=>e=.returned (.tuple #[.int .i64 (inOf x 1 64).1,.bool (inOf x 1 64).2])∧Below w.heap.size w w':=by
 have:=decWithin_any (tx x) 1 64 w (by rw [tx_size];omega) h
 rw [data_tx] at this
 exact this
theorem schRead_any (a:Option Addr) (c:Nat) (ls:List (List UInt8)) (w:World) (h:TxA w a c ls) (hz:∀ x∈ls,x.length≤1000000) (hg:GoodM w) :
  Calls Tryz.prog 78 #[.slice a ls.length c] w (GivesS (readM ls) w):=by
 cases ls with
 | nil=>exact schRead_len a 0 c w false (by decide) rfl
 | cons x t =>
  by_cases h6:t.length≤6
  ·obtain ⟨g,o,rfl,hc,hcap,hmax⟩:=h.resolve_left (by simp)
   have c0:=hc 0 x rfl
   rw [Nat.add_zero] at c0
   have hxz:=hz x (by simp)
   have hl:=cutX_length x
   obtain ⟨f,KC⟩:=cut_flag x hxz
   have KP:=within_any (cutX x).1 (by omega)
   have KQ:=within_any (cutX x).2 (by omega)
   by_cases hs:(inOf (cutX x).1 1 64).2=true∧(inOf (cutX x).2 1 64).2=true
   ·rw [hs.1] at KP
    rw [hs.2] at KQ
    have e:readM (x :: t)=(stepsM t).map fun l=>⟨(inOf (cutX x).1 1 64).1,(inOf (cutX x).2 1 64).1,l⟩:=by simp only [readM];rw [if_pos ⟨h6,hs⟩]
    rw [e]
    exact schRead_good g o t.length c (tx x) _ _ f _ _ t w c0 (fun i l hi=>by rw [Nat.add_comm 1 i];exact hc (i+1) l (by simpa using hi)) rfl h6 hcap hmax (fun y hy=>hz y (by simp [hy])) hg _ rfl KC KP KQ
   ·have e:readM (x :: t)=none:=by simp only [readM];rw [if_neg fun h=>hs h.2]
    rw [e]
    refine schRead_sides g o _ c (tx x) _ _ f _ _ _ _ w c0 (by simp) (by simp;omega) ?_ hg KC KP KQ
    cases h1:(inOf (cutX x).1 1 64).2
    ·exact .inl rfl
    ·right
     cases h2:(inOf (cutX x).2 1 64).2
     ·rfl
     ·exact absurd ⟨h1,h2⟩ hs
  ·have e:readM (x :: t)=none:=by simp only [readM];rw [if_neg fun h=>h6 h.1]
   rw [e]
   exact schRead_len a _ c w false (by simp;omega) rfl
end Go.Proofs.YtbbjileignefbaaGreatDoor
namespace Go.Proofs.YtbbjileignefbaaGreatDoor
open Go.RowKit Go.Lib
def TxF (base:Nat) (w:World) (a:Option Addr) (c:Nat) (ls:List (List UInt8)):Prop :=
 ls=[]∨∃ g o,a=some ⟨g,o,none⟩∧base≤g∧(∀ i l,ls[i]?=some l→w.cell? ⟨g,o+i,none⟩=some (.string (tx l)))∧ls.length≤c∧c≤maxLen
theorem TxF.arg {base:Nat} {w:World} {a:Option Addr} {c:Nat} {ls:List (List UInt8)} (h:TxF base w a c ls):TxA w a c ls:=h.imp id fun ⟨g,o,e,_,h⟩=>⟨g,o,e,h⟩
theorem TxF.up {base:Nat} {w w':World} {a:Option Addr} {c:Nat} {ls:List (List UInt8)} (h:TxF base w a c ls) (hb:Below w.heap.size w w'):TxF base w' a c ls:=h.imp id fun ⟨g,o,e,h0,h,h2⟩=>⟨g,o,e,h0,fun i l hi=>bl_cell hb (h i l hi),h2⟩
theorem TxF.mono {base base':Nat} {w:World} {a:Option Addr} {c:Nat} {ls:List (List UInt8)} (h:TxF base w a c ls) (hb:base'≤base):TxF base' w a c ls:=h.imp id fun ⟨g,o,e,h0,h⟩=>⟨g,o,e,by omega,h⟩
theorem TxF.keep {base B:Nat} {w w':World} {a:Option Addr} {c:Nat} {ls:List (List UInt8)} (h:TxF base w a c ls) (hB:B<base) (hk:∀ p:Addr,p.block≠B→∀ v,w.cell? p=some v→w'.cell? p=some v):TxF base w' a c ls :=
 h.imp id fun ⟨g,o,e,h0,h,h2⟩=>⟨g,o,e,h0,fun i l hi=>hk _ (by simp only;omega) _ (h i l hi),h2⟩
theorem InF.keep {base B:Nat} {w w':World} {a:Option Addr} {l:List Sp} (h:InF base w a l) (hB:B<base) (hk:∀ p:Addr,p.block≠B→∀ v,w.cell? p=some v→w'.cell? p=some v):InF base w' a l :=
 h.imp id fun ⟨b,off,e,h0,h⟩=>⟨b,off,e,h0,fun j q hq=>by
  obtain ⟨c0,c1,c2⟩:=h j q hq
  exact ⟨hk _ (by simp only;omega) _ c0,hk _ (by simp only;omega) _ c1,hk _ (by simp only;omega) _ c2⟩⟩
theorem flatS_read:∀ (l:List Sp) (b off:Nat) (w:World),InS w b off l→∀ j u,(flatS l)[j]?=some u→w.cell? ⟨b,off+j,none⟩=some u
 | [],_,_,_,_,j,u,hu=>by simp [flatS] at hu
 | p :: l,b,off,w,h,j,u,hu=>by
  obtain ⟨c0,c1,c2⟩:=h 0 p rfl
  match j,hu with
  | 0,hu=>simp [flatS] at hu;subst hu;simpa using c0
  | 1,hu=>simp [flatS] at hu;subst hu;simpa using c1
  | 2,hu=>simp [flatS] at hu;subst hu;simpa using c2
  | j+3,hu =>
   have:=flatS_read l b (off+3) w (fun i q hq=>by
    have:=h (i+1) q (by simpa using hq)
    rw [show off+(i+1)*3=off+3+i*3 by omega] at this
    exact this) j u (by simpa [flatS] using hu)
   rwa [show off+(j+3)=off+3+j by omega]
theorem flatS_one (l:List Sp):∀ u∈flatS l,u.oneCell'=true:=by
 induction l with
 | nil=>intro u hu;cases hu
 | cons p l ih =>
  intro u hu
  simp only [flatS,List.mem_cons] at hu
  rcases hu with rfl | rfl | rfl | hu
  ·rfl
  ·rfl
  ·rfl
  ·exact ih u hu
end Go.Proofs.YtbbjileignefbaaGreatDoor
namespace Go.Proofs.YtbbjileignefbaaGreatDoor
open Go.RowKit
def cellJ (i:Nat):Nat:=if i<11 then i+1 else i+5
def jobL (t:ByteArray) (n:Nat→Int) (c r:Int) (fv lv:Value):List Value :=
 .string t :: .int .i64 (n 0) :: .int .i64 (n 1) :: .int .i64 (n 2) :: .int .i64 (n 3) :: .int .i64 (n 4) :: .int .i64 (n 5) :: .int .i64 (n 6) :: .int .i64 (n 7) :: .int .i64 (n 8) :: .int .i64 (n 9) :: .int .i64 (n 10) :: .int .i64 c :: .int .i64 r :: fv :: lv :: .int .i64 (n 11) :: .int .i64 (n 12) :: .int .i64 (n 13) :: .int .i64 (n 14) :: .int .i64 (n 15) :: .int .i64 (n 16) :: .int .i64 (n 17) :: .int .i64 (n 18) :: .int .i64 (n 19) :: .int .i64 (n 20) :: .int .i64 (n 21) :: .int .i64 (n 22) :: .int .i64 (n 23) :: .int .i64 (n 24) :: .int .i64 (n 25) :: .int .i64 (n 26) :: .int .i64 (n 27) :: []
theorem jobL_length (t:ByteArray) (n:Nat→Int) (c r:Int) (fv lv:Value):(jobL t n c r fv lv).length=33:=rfl
theorem num_ways {i:Nat} (h:i<28):i=0∨i=1∨i=2∨i=3∨i=4∨i=5∨i=6∨i=7∨i=8∨i=9∨i=10∨i=11∨i=12∨i=13∨i=14∨i=15∨i=16∨i=17∨i=18∨i=19∨i=20∨i=21∨i=22∨i=23∨i=24∨i=25∨i=26∨i=27:=by omega
theorem job_at (t:ByteArray) (n:Nat→Int) (c r:Int) (fv lv:Value) {i:Nat} (h:i<28):(jobL t n c r fv lv)[cellJ i]?=some (.int .i64 (n i)):=by
 rcases num_ways h with rfl | rfl | rfl | rfl | rfl | rfl | rfl | rfl | rfl | rfl | rfl | rfl | rfl | rfl | rfl | rfl | rfl | rfl | rfl | rfl | rfl | rfl | rfl | rfl | rfl | rfl | rfl | rfl<;>rfl
def setN (n:Nat→Int) (i:Nat) (z:Int):Nat→Int:=fun j=>if j=i then z else n j
theorem job_set (t:ByteArray) (n:Nat→Int) (c r:Int) (fv lv:Value) {i:Nat} (h:i<28) (z:Int):(jobL t n c r fv lv).set (cellJ i) (.int .i64 z)=jobL t (setN n i z) c r fv lv:=by
 rcases num_ways h with rfl | rfl | rfl | rfl | rfl | rfl | rfl | rfl | rfl | rfl | rfl | rfl | rfl | rfl | rfl | rfl | rfl | rfl | rfl | rfl | rfl | rfl | rfl | rfl | rfl | rfl | rfl | rfl<;>rfl
theorem job_one (t:ByteArray) (n:Nat→Int) (c r:Int) (a:Option Addr) (k d:Nat) (a':Option Addr) (k' d':Nat):(jobL t n c r (.slice a k d) (.slice a' k' d')).toArray.all (·.oneCell')=true:=by
 rw [List.all_toArray];rfl
def numsL (n:Nat→Int):List Int:=(List.range 28).map n
def fromL:List Int:=[1,-5000000,-5000000,1,1,0,0,0,0,0,1,1,1,1,0,0,0,0,0,1,0,0,0,0,0,0,1,0]
def toL:List Int:=[100000,5000000,5000000,5000000,5000000,5000000,5000000,5000000,5000000,5000000,4,4,5000000,5000000,5000000,5000000,5000000,100000,1000,1000,3,5000000,5000000,5000000,5000000,5000000,1000,5000000]
def lowJ (i:Nat):Int:=fromL.getD i 0
def topJ (i:Nat):Int:=toL.getD i 0
def okJ (n:Nat→Int) (i:Nat):Bool:=decide (lowJ i≤n i)&&decide (n i≤topJ i)
def firstJ (n:Nat→Int):Int:=match (List.range 28).find? (fun i=>!okJ n i) with
 | some i=>(i:Int)
 | none=>-1
theorem firstJ_at {n:Nat→Int} {k:Nat} (hk:k<28) (h:∀ j,j<k→okJ n j=true) (h0:okJ n k=false):firstJ n=(k:Int):=by
 have:(List.range 28).find? (fun i=>!okJ n i)=some k:=by
  rw [List.find?_range_eq_some]
  exact ⟨by simp [h0],List.mem_range.2 hk,fun j hj=>by simp [h j hj]⟩
 unfold firstJ
 rw [this]
theorem firstJ_none {n:Nat→Int} (h:∀ j,j<28→okJ n j=true):firstJ n=-1:=by
 have:(List.range 28).find? (fun i=>!okJ n i)=none:=by
  rw [List.find?_range_eq_none]
  exact fun j hj=>by simp [h j hj]
 unfold firstJ
 rw [this]
theorem okJ_snoc {n:Nat→Int} {k:Nat} (h:∀ j,j<k→okJ n j=true) (h0:okJ n k=true):∀ j,j<k+1→okJ n j=true:=fun j hj=>by
 by_cases e:j=k
 ·rw [e];exact h0
 ·exact h j (by omega)
theorem numsL_at (n:Nat→Int) {i:Nat} (h:i<28):(numsL n)[i]?=some (n i):=by
 unfold numsL
 rw [List.getElem?_map,List.getElem?_range h]
 rfl
theorem low_at {i:Nat} (h:i<28):fromL[i]?=some (lowJ i):=by
 rcases num_ways h with rfl | rfl | rfl | rfl | rfl | rfl | rfl | rfl | rfl | rfl | rfl | rfl | rfl | rfl | rfl | rfl | rfl | rfl | rfl | rfl | rfl | rfl | rfl | rfl | rfl | rfl | rfl | rfl<;>rfl
theorem top_at {i:Nat} (h:i<28):toL[i]?=some (topJ i):=by
 rcases num_ways h with rfl | rfl | rfl | rfl | rfl | rfl | rfl | rfl | rfl | rfl | rfl | rfl | rfl | rfl | rfl | rfl | rfl | rfl | rfl | rfl | rfl | rfl | rfl | rfl | rfl | rfl | rfl | rfl<;>rfl
structure But (D R:Nat) (w w':World):Prop where
 os:w'.os=w.os
 tape:w'.tape=w.tape
 output:w'.output=w.output
 size:w.heap.size≤w'.heap.size
 block:∀ k,k<w.heap.size→k≠D→k≠R→w'.heap[k]?=w.heap[k]?
theorem But.of {D R:Nat} {w w':World} (h:Below w.heap.size w w'):But D R w w':=⟨h.os,h.tape,h.output,h.size,fun k hk _ _=>h.block k hk⟩
theorem But.refl (D R:Nat) (w:World):But D R w w:=But.of (Below.refl _ _)
theorem But.trans {D R R':Nat} {w w' w'':World} (h:But D R w w') (k:But D R' w' w'') (hR:R'=D∨R'=R∨w.heap.size≤R'):But D R w w'' :=
 ⟨k.os.trans h.os,k.tape.trans h.tape,k.output.trans h.output,Nat.le_trans h.size k.size,fun j hj h1 h2=>(k.block j (Nat.lt_of_lt_of_le hj h.size) h1 (by rcases hR with r | r | r<;>omega)).trans (h.block j hj h1 h2)⟩
theorem But.set {D R:Nat} {w w':World} (h:But D R w w') (o:Nat) (v:Value):But D R w (w'.setCell ⟨D,o,none⟩ v) :=
 ⟨h.os,h.tape,h.output,by have:=h.size;simpa [World.setCell] using this,fun k hk h1 h2=>(Below.heap_setCell _ _ _ _ h1).trans (h.block k hk h1 h2)⟩
theorem But.below {D R B:Nat} {w w':World} (h:But D R w w') (hB:B≤w.heap.size) (h1:B≤D) (h2:B≤R):Below B w w':=⟨h.os,h.tape,h.output,h.size,fun k hk=>h.block k (by omega) (by omega) (by omega)⟩
theorem setCells_but (D b o:Nat) (vs:List Value) (w:World):But D b w (w.setCells b o vs):=by
 have h:∀ (vs:List Value) (o:Nat) (w:World),(w.setCells b o vs).os=w.os∧(w.setCells b o vs).tape=w.tape∧(w.setCells b o vs).output=w.output∧w.heap.size≤(w.setCells b o vs).heap.size:=by
  intro vs
  induction vs with
  | nil=>intro o w;exact ⟨rfl,rfl,rfl,Nat.le_refl _⟩
  | cons v r ih =>
   intro o w
   obtain ⟨h1,h2,h3,h4⟩:=ih (o+1) (w.setCell ⟨b,o,none⟩ v)
   exact ⟨h1,h2,h3,by simpa [World.setCell,World.setCells] using h4⟩
 obtain ⟨h1,h2,h3,h4⟩:=h vs o w
 exact ⟨h1,h2,h3,h4,fun k hk _ hne=>World.heap_setCells_other w b o vs hk hne⟩
theorem But.more {D R:Nat} {w w':World} (h:But R R w w'):But D R w w':=⟨h.os,h.tape,h.output,h.size,fun k hk _ h2=>h.block k hk h2 h2⟩
theorem row_frozen {w:World} {R:Nat} {cur:Array Value} {t:TypeId} (h:w.heap[R]?=some (.cells cur t (0,0))) (j:Nat):w.frozen? ⟨R,j,none⟩=false:=by simp [World.frozen?,h]
theorem row_some {w:World} {R:Nat} {cur:Array Value} {t:TypeId} (h:w.heap[R]?=some (.cells cur t (0,0))) (j:Nat) (hj:j<cur.size):(w.cell? ⟨R,j,none⟩).isSome=true:=by simp [World.cell?,h,hj]
theorem drew_but (D R:Nat) (w:World):But D R w w.drew:=⟨rfl,rfl,rfl,Nat.le_refl _,fun _ _ _ _=>rfl⟩
theorem cell_new (w:World) (cur:Array Value) (t:TypeId) (j:Nat):(w.alloc (.cells cur t)).cell? ⟨w.heap.size,j,none⟩=cur[j]?:=by simp [go_sem]
theorem heap_new (w:World) (o:Obj):(w.alloc o).heap[w.heap.size]?=some o:=World.alloc_heap_new w o
end Go.Proofs.YtbbjileignefbaaGreatDoor
namespace Go.Proofs.YtbbjileignefbaaGreatDoor
open Go.RowKit
section
variable {P:Program} {ops:Array Oper} {rest:List Oper} {o:Oper} {a:Act} {w:World} {Q:Exit→Act→World→Prop}
theorem wpList_alloc_to (hg:o.guard=none) (ty:TypeId) (ho:o.op=.alloc ty) (v:Value) (w':World) (hr:(Instr.alloc ty true (.tuple #[])).run P w=.ok v w') (h:wpList P ops Q rest (a.put o.dst v) w'):wpList P ops Q (o :: rest) a w :=
 wpList_plain hg fun _ hK=>by
  unfold Oper.wp execOp
  simp only [ho,Sem.run_bind,hr,Result.andThen_ok]
  exact hK _ _ h
theorem wpList_build_to (hg:o.guard=none) (t:TypeId) (parts:Array (Nat×Operand)) (ho:o.op=.build t parts) (cells:Array Value) (hc:P.built t (parts.map fun (i,x)=>(i,a.eval x)).toList=some cells) (h:wpList P ops Q rest (a.put o.dst (.agg cells)) w):wpList P ops Q (o :: rest) a w :=
 wpList_build hg t parts ho (by rw [hc];rfl) (by rw [hc];exact h)
end
theorem Bx.range {w:World} {B:Nat} {vs:List Value} (h:Bx w B vs):w.rangeAt B 0 vs:=fun j v hj=>by rw [Nat.zero_add];exact h.1 j v hj
theorem Bx.present {w:World} {B:Nat} {vs:List Value} (h:Bx w B vs):w.there B 0 vs.length:=fun j hj=>by
 rw [Nat.zero_add]
 exact ⟨by rw [h.1 j _ (List.getElem?_eq_getElem hj)];rfl,h.2 j⟩
theorem there_up {w w':World} {b o n:Nat} (h:w.there b o n) (hb:Below w.heap.size w w'):w'.there b o n:=fun j hj=>by
 obtain ⟨h1,h2⟩:=h j hj
 obtain ⟨v,hv⟩:=Option.isSome_iff_exists.1 h1
 exact ⟨by rw [bl_cell hb hv];rfl,(kept_marks hb b _ (World.block_lt_of_cell? w _ hv)).trans h2⟩
theorem Bx.lowE {w:World} {B:Nat} {vs:List Value} (h:Bx w B vs) (h0:0<vs.length):B<w.heap.size:=World.block_lt_of_cell? w _ (h.1 0 _ (List.getElem?_eq_getElem h0))
theorem Bx.later {w w':World} {B:Nat} {vs:List Value} (h:Bx w B vs) (h0:0<vs.length) (hb:Below w.heap.size w w'):Bx w' B vs :=
 ⟨fun j v hj=>bl_cell hb (h.1 j v hj),fun j=>(kept_marks hb B j (h.lowE h0)).trans (h.2 j)⟩
theorem Bx.sets {w:World} {B:Nat} {vs ws:List Value} (h:Bx w B vs) (hl:ws.length=vs.length):Bx (w.setCells B 0 ws) B ws:=by
 refine ⟨fun j v hj=>?_,fun j=>by rw [World.frozen?_setCells];exact h.2 j⟩
 have:=World.rangeAt_setCells_same w B 0 ws (by rw [hl];exact h.present) j v hj
 rwa [Nat.zero_add] at this
theorem below_setCells {w:World} {n B:Nat} (hB:n≤B):∀ (ws:List Value) (o:Nat) (w':World),Below n w w'→Below n w (w'.setCells B o ws)
 | [],_,_,h=>h
 | v :: r,o,w',h=>below_setCells hB r (o+1) _ (h.setCell (p:=⟨B,o,none⟩) hB v)
theorem sets_far {w:World} {B C:Nat} {vs:List Value} (h:Bx w C vs) (hne:C≠B) (o:Nat) (ws:List Value):Bx (w.setCells B o ws) C vs:=by
 refine ⟨fun j v hj=>?_,fun j=>by rw [World.frozen?_setCells];exact h.2 j⟩
 rw [World.cell?_setCells_out B ws o w _ (fun e _=>absurd e hne)]
 exact h.1 j v hj
theorem results_wide {P:Program} {fn:Func} {tmps:Array Value} {w:World} {s:Nat} {t:TypeId} (hr:fn.results=#[.cell s t]) (b:Nat) (ht:tmps.getD s undef=.pointer (some ⟨b,0,none⟩)) (cs:List Value) (d:TypeDesc)
  (hc:w.rangeAt b 0 cs) (hu:P.underlying t=some d) (hd:d.isRow=true) (hi:(P.info? t).map (·.size)=some cs.length):(results fn tmps).run P w=.ok (.agg cs.toArray) w:=by
 unfold results
 rw [hr]
 have ht':tmps[s]?.getD undef=.pointer (some ⟨b,0,none⟩):=by simpa using ht
 simp [ht',asAddr,run_loadVar_mid w b 0 t cs d hc hu hd hi]
end Go.Proofs.YtbbjileignefbaaGreatDoor
namespace Go.Proofs.YtbbjileignefbaaGreatDoor
open Go.RowKit
structure Jb where
 t:List UInt8
 n:Nat→Int
 f:Sc
 ls:List (List UInt8)
def JobA (w:World) (cs:List Value) (j:Jb):Prop :=
 ∃ a c a' c',cs=jobL (tx j.t) j.n j.f.c j.f.r (.slice a j.f.l.length c) (.slice a' j.ls.length c')∧InL w a j.f.l∧TxA w a' c' j.ls
def JobF (base:Nat) (w:World) (cs:List Value) (j:Jb):Prop :=
 ∃ a c a' c',cs=jobL (tx j.t) j.n j.f.c j.f.r (.slice a j.f.l.length c) (.slice a' j.ls.length c')∧InF base w a j.f.l∧TxF base w a' c' j.ls
theorem JobF.jobA {base:Nat} {w:World} {cs:List Value} {j:Jb} (h:JobF base w cs j):JobA w cs j:=by
 obtain ⟨a,c,a',c',e,h1,h2⟩:=h
 exact ⟨a,c,a',c',e,h1.inL,h2.arg⟩
theorem JobA.up {w w':World} {cs:List Value} {j:Jb} (h:JobA w cs j) (hb:Below w.heap.size w w'):JobA w' cs j:=by
 obtain ⟨a,c,a',c',e,h1,h2⟩:=h
 exact ⟨a,c,a',c',e,h1.up hb,h2.up hb⟩
theorem JobF.up {base:Nat} {w w':World} {cs:List Value} {j:Jb} (h:JobF base w cs j) (hb:Below w.heap.size w w'):JobF base w' cs j:=by
 obtain ⟨a,c,a',c',e,h1,h2⟩:=h
 exact ⟨a,c,a',c',e,h1.up hb,h2.up hb⟩
theorem JobF.mono {base base':Nat} {w:World} {cs:List Value} {j:Jb} (h:JobF base w cs j) (hb:base'≤base):JobF base' w cs j:=by
 obtain ⟨a,c,a',c',e,h1,h2⟩:=h
 exact ⟨a,c,a',c',e,h1.mono hb,h2.mono hb⟩
theorem JobA.length {w:World} {cs:List Value} {j:Jb} (h:JobA w cs j):cs.length=33:=by
 obtain ⟨a,c,a',c',rfl,-⟩:=h
 rfl
theorem JobA.num {w:World} {cs:List Value} {j:Jb} (h:JobA w cs j) {k:Nat} (hk:k<28):cs[cellJ k]?=some (.int .i64 (j.n k)):=by
 obtain ⟨a,c,a',c',rfl,-⟩:=h
 exact job_at _ _ _ _ _ _ hk
theorem JobA.one {w:World} {cs:List Value} {j:Jb} (h:JobA w cs j):cs.toArray.all (·.oneCell')=true:=by
 obtain ⟨a,c,a',c',rfl,-⟩:=h
 exact job_one _ _ _ _ _ _ _ _ _ _
theorem JobA.put {w:World} {cs:List Value} {j:Jb} (h:JobA w cs j) {k:Nat} (hk:k<28) (z:Int):JobA w (cs.set (cellJ k) (.int .i64 z)) { j with n:=setN j.n k z }:=by
 obtain ⟨a,c,a',c',rfl,h1,h2⟩:=h
 exact ⟨a,c,a',c',job_set _ _ _ _ _ _ hk z,h1,h2⟩
theorem JobF.put {base:Nat} {w:World} {cs:List Value} {j:Jb} (h:JobF base w cs j) {k:Nat} (hk:k<28) (z:Int):JobF base w (cs.set (cellJ k) (.int .i64 z)) { j with n:=setN j.n k z }:=by
 obtain ⟨a,c,a',c',rfl,h1,h2⟩:=h
 exact ⟨a,c,a',c',job_set _ _ _ _ _ _ hk z,h1,h2⟩
theorem Jb.same (j:Jb):{ j with n:=j.n }=j:=rfl
theorem quiet_load_mid {P:Program} {C:World→Prop} {K:Act→Prop} {o:Oper} {a:Act} (ty:TypeId) (x:Operand) (ho:o.op=.load ty x) (b off:Nat) (hx:a.eval x=.pointer (some ⟨b,off,none⟩)) (cs:List Value) (d:TypeDesc)
  (hS:∀ w,C w→w.rangeAt b off cs) (hu:P.underlying ty=some d) (hd:d.isRow=true) (hi:(P.info? ty).map (·.size)=some cs.length) (h:K (a.put o.dst (.agg cs.toArray))):o.quiet P a C K :=
 ⟨_,fun w hw=>by
  unfold Oper.quietAt execOp
  simp only [ho,hx,Instr.loadAt,Instr.sureAddr,Sem.run_bind,Sem.run_pure,Result.andThen_ok,run_loadVar_mid w b off ty cs d (hS w hw) hu hd hi]
  exact ⟨rfl,rfl⟩,h⟩
theorem later_range {w:World} {B:Nat} {cs:List Value} (h:Bx w B cs) (h0:0<cs.length):∀ w',(∃ u:Later w,w'=u.now)→w'.rangeAt B 0 cs:=by
 rintro _ ⟨u,rfl⟩
 exact (h.later h0 u.up).range
theorem infoJob:(Tryz.prog.info? 29).map (·.size)=some 33:=by kernel_rfl
section
variable {ops:Array Oper} {rest:List Oper} {o:Oper} {a:Act} {w:World} {Q:Exit→Act→World→Prop} {C:World→Prop} {K:Act→Prop}
theorem wpList_load_job (hg:o.guard=none) (x:Operand) (ho:o.op=.load 29 x) (b:Nat) (hx:a.eval x=.pointer (some ⟨b,0,none⟩)) (cs:List Value) (hb:Bx w b cs) (hl:cs.length=33)
  (h:wpList Tryz.prog ops Q rest (a.put o.dst (.agg cs.toArray)) w):wpList Tryz.prog ops Q (o :: rest) a w :=
 wpList_load_mid hg _ x ho b 0 hx cs _ hb.range Tryz.underlying29 rfl (by rw [hl];exact infoJob) h
theorem quiet_load_job (x:Operand) (ho:o.op=.load 29 x) (b:Nat) (hx:a.eval x=.pointer (some ⟨b,0,none⟩)) (cs:List Value) (hl:cs.length=33) (hS:∀ w,C w→w.rangeAt b 0 cs)
  (h:K (a.put o.dst (.agg cs.toArray))):o.quiet Tryz.prog a C K :=
 quiet_load_mid _ x ho b 0 hx cs _ hS Tryz.underlying29 rfl (by rw [hl];exact infoJob) h
theorem wpList_store_job (hg:o.guard=none) (x y:Operand) (ho:o.op=.store 29 x y) (b:Nat) (hx:a.eval x=.pointer (some ⟨b,0,none⟩)) (vs cs:List Value) (hy:a.eval y=.agg cs.toArray) (hb:Bx w b vs) (hv:vs.length=33) (hl:cs.length=33) (h1:cs.toArray.all (·.oneCell')=true)
  (h:wpList Tryz.prog ops Q rest (a.put o.dst undef) (w.setCells b 0 cs)):wpList Tryz.prog ops Q (o :: rest) a w :=
 wpList_store_mid hg _ x y ho b 0 cs.toArray hx hy (by have:=hb.present;rw [hv] at this;simpa [hl] using this) (by simpa [hl] using infoJob) h1 (by simpa using h)
end
end Go.Proofs.YtbbjileignefbaaGreatDoor
namespace Go.Proofs.YtbbjileignefbaaGreatDoor
open Go.RowKit Go.Lib
structure Pc where
 n:Int
 fx:Bool
 fy:Bool
deriving DecidableEq,Inhabited
def Pc.cells (p:Pc):List Value:=[.int .i64 p.n,.int .i64 0,.bool p.fx,.bool p.fy]
def Pc.val (p:Pc):Value:=.agg #[.int .i64 p.n,.int .i64 0,.bool p.fx,.bool p.fy]
def pcs (l:List Pc):List Value:=l.flatMap Pc.cells
theorem pcs_cons (p:Pc) (l:List Pc):pcs (p :: l)=p.cells++pcs l:=rfl
theorem pcs_append (l m:List Pc):pcs (l++m)=pcs l++pcs m:=by simp [pcs]
theorem pcs_length (l:List Pc):(pcs l).length=l.length*4:=by
 induction l with
 | nil=>rfl
 | cons p l ih=>rw [pcs_cons,List.length_append,ih,List.length_cons];simp [Pc.cells];omega
theorem pcs_one {l:List Pc}:∀ u∈pcs l,u.oneCell'=true:=by
 intro u hu
 obtain ⟨p,_,hp⟩:=List.mem_flatMap.1 hu
 simp [Pc.cells] at hp
 rcases hp with rfl | rfl | rfl | rfl<;>rfl
theorem pcs_at {l:List Pc} {j:Nat} {p:Pc} (h:l[j]?=some p) (i:Nat) (hi:i<4):(pcs l)[j*4+i]?=p.cells[i]?:=by
 induction l generalizing j with
 | nil=>simp at h
 | cons q l ih =>
  rw [pcs_cons]
  cases j with
  | zero =>
   simp only [List.getElem?_cons_zero,Option.some.injEq] at h
   subst h
   rw [List.getElem?_append_left (by simp [Pc.cells];omega)]
   simp
  | succ j =>
   rw [List.getElem?_cons_succ] at h
   rw [List.getElem?_append_right (by simp [Pc.cells];omega),←ih h]
   congr 1
   simp [Pc.cells]
   omega
theorem pcs_set {l:List Pc} {j:Nat} (hj:j<l.length) (q:Pc):pcs (l.set j q)=(pcs l).take (j*4)++q.cells++(pcs l).drop (j*4+4):=by
 have h1:l.set j q=l.take j++q :: l.drop (j+1):=List.set_eq_take_append_cons_drop .. |>.trans (by rw [if_pos hj])
 have h2:pcs l=pcs (l.take j)++pcs (l.drop j):=by rw [←pcs_append,List.take_append_drop]
 have h3:(pcs (l.take j)).length=j*4:=by rw [pcs_length,List.length_take];omega
 have h4:l.drop j=l[j] :: l.drop (j+1):=List.drop_eq_getElem_cons hj
 rw [h1,pcs_append,pcs_cons,h2,List.take_left' h3,←h3,List.drop_append,h4,pcs_cons]
 simp [Pc.cells]
theorem Tryz.infoPc:(Tryz.prog.info? 141).map (fun i=>(i.zero,i.size,i.bytes))=some (some (.agg #[.int .i64 0,.int .i64 0,.bool false,.bool false]),4,24):=by kernel_rfl
def PcsAt (w:World) (b:Nat) (l:List Pc):Prop:=∀ j u,(pcs l)[j]?=some u→w.cell? ⟨b,j,none⟩=some u
theorem PcsAt.up {w w':World} {b:Nat} {l:List Pc} (h:PcsAt w b l) (hb:Below w.heap.size w w'):PcsAt w' b l:=fun j u hu=>bl_cell hb (h j u hu)
theorem PcsAt.cells {w:World} {b:Nat} {l:List Pc} (h:PcsAt w b l) {j:Nat} {p:Pc} (hp:l[j]?=some p) :
  w.cell? ⟨b,j*4,none⟩=some (.int .i64 p.n)∧w.cell? ⟨b,j*4+1,none⟩=some (.int .i64 0)∧w.cell? ⟨b,j*4+2,none⟩=some (.bool p.fx)∧w.cell? ⟨b,j*4+3,none⟩=some (.bool p.fy) :=
 ⟨h _ _ (pcs_at hp 0 (by omega)),h _ _ (pcs_at hp 1 (by omega)),h _ _ (pcs_at hp 2 (by omega)),h _ _ (pcs_at hp 3 (by omega))⟩
structure Row (w:World) (base g cap:Nat) (l:List Pc):Prop where
 own:w.ownsRow base 141 4 (.slice (some ⟨g,0,none⟩) l.length cap) l.length (pcs l)
theorem Row.block {w:World} {base g cap:Nat} {l:List Pc} (h:Row w base g cap l):∃ cur,w.heap[g]?=some (.cells cur 141 (0,0))∧l.length≤cap∧cap≤maxLen∧cur.size=cap*4∧cur.toList.take (l.length*4)=pcs l∧base≤g:=by
 rcases h.own.2 with ⟨e,_⟩ | ⟨g',cap',cur,e,h1,h2,h3,h4,h5,h6⟩
 ·cases e
 ·cases e
  exact ⟨cur,h2,h3,h4,h5,h6,h1⟩
theorem Row.of_block {w:World} {base g cap:Nat} {l:List Pc} {cur:Array Value} (h1:base≤g) (h2:w.heap[g]?=some (.cells cur 141 (0,0))) (h3:l.length≤cap) (h4:cap≤maxLen) (h5:cur.size=cap*4) (h6:cur.toList.take (l.length*4)=pcs l):Row w base g cap l :=
 ⟨⟨pcs_length l,.inr ⟨g,cap,cur,rfl,h1,h2,h3,h4,h5,h6⟩⟩⟩
theorem Row.lt {w:World} {base g cap:Nat} {l:List Pc} (h:Row w base g cap l):base≤g∧g<w.heap.size:=h.own.lt g rfl
theorem Row.at {w:World} {base g cap:Nat} {l:List Pc} (h:Row w base g cap l):PcsAt w g l:=fun j u hu=>by
 have:=h.own.cells (g:=g) rfl j u hu
 rwa [show (⟨g,0,none⟩:Addr).add j=⟨g,j,none⟩ by unfold Addr.add;split<;>simp_all] at this
theorem Row.free {w:World} {base g cap:Nat} {l:List Pc} (h:Row w base g cap l) (j:Nat):w.frozen? ⟨g,j,none⟩=false:=by
 obtain ⟨cur,h2,_⟩:=h.block
 exact row_frozen h2 j
theorem Row.kept {w w':World} {base g cap:Nat} {l:List Pc} (h:Row w base g cap l) (hb:w'.heap[g]?=w.heap[g]?):Row w' base g cap l:=by
 obtain ⟨cur,h2,h3,h4,h5,h6,h1⟩:=h.block
 exact Row.of_block h1 (hb.trans h2) h3 h4 h5 h6
theorem Row.up {w w':World} {base g cap:Nat} {l:List Pc} (h:Row w base g cap l) (hb:Below w.heap.size w w'):Row w' base g cap l:=h.kept (hb.block g h.lt.2)
theorem Row.base {w:World} {base g cap:Nat} {l:List Pc} (h:Row w base g cap l) (b:Nat) (hb:b≤g):Row w b g cap l:=by
 obtain ⟨cur,h2,h3,h4,h5,h6,h1⟩:=h.block
 exact Row.of_block hb h2 h3 h4 h5 h6
theorem Row.of_own {w:World} {base:Nat} {v:Value} {l:List Pc} (h:w.ownsRow base 141 4 v l.length (pcs l)) (hl:0<l.length):∃ g cap,v=.slice (some ⟨g,0,none⟩) l.length cap∧Row w base g cap l:=by
 rcases h.2 with ⟨_,h0⟩ | ⟨g,cap,cur,rfl,_⟩
 ·omega
 ·exact ⟨g,cap,rfl,⟨h⟩⟩
structure Dp (w:World) (base D R:Nat) (l:List Pc):Prop where
 low:base≤D
 row:∃ cap,Boxed w D 159 (.slice (some ⟨R,0,none⟩) l.length cap)∧Row w base R cap l
theorem Dp.ltD {w:World} {base D R:Nat} {l:List Pc} (h:Dp w base D R l):D<w.heap.size:=by
 obtain ⟨cap,h1,h2⟩:=h.row
 exact h1.lt
theorem Dp.ltR {w:World} {base D R:Nat} {l:List Pc} (h:Dp w base D R l):base≤R∧R<w.heap.size:=by
 obtain ⟨cap,h1,h2⟩:=h.row
 exact h2.lt
theorem Dp.ne {w:World} {base D R:Nat} {l:List Pc} (h:Dp w base D R l):R≠D:=by
 obtain ⟨cap,h1,h2⟩:=h.row
 obtain ⟨cur,h3,_⟩:=h2.block
 rintro rfl
 have:=(show w.heap[R]?=_ from h1).symm.trans h3
 simp at this
theorem Dp.kept {w w':World} {base D R:Nat} {l:List Pc} (h:Dp w base D R l) (h1:w'.heap[D]?=w.heap[D]?) (h2:w'.heap[R]?=w.heap[R]?):Dp w' base D R l:=by
 obtain ⟨cap,k1,k2⟩:=h.row
 exact ⟨h.low,cap,h1.trans k1,k2.kept h2⟩
theorem Dp.up {w w':World} {base D R:Nat} {l:List Pc} (h:Dp w base D R l) (hb:Below w.heap.size w w'):Dp w' base D R l:=h.kept (hb.block D h.ltD) (hb.block R h.ltR.2)
theorem Dp.but {w w':World} {base D R D' R':Nat} {l:List Pc} (h:Dp w base D R l) (hb:But D' R' w w') (h1:D≠D') (h2:D≠R') (h3:R≠D') (h4:R≠R'):Dp w' base D R l:=h.kept (hb.block D h.ltD h1 h2) (hb.block R h.ltR.2 h3 h4)
theorem Dp.base {w:World} {base D R:Nat} {l:List Pc} (h:Dp w base D R l) (b:Nat) (h1:b≤D) (h2:b≤R):Dp w b D R l:=by
 obtain ⟨cap,k1,k2⟩:=h.row
 exact ⟨h1,cap,k1,k2.base b h2⟩
def MadeP (base:Nat) (w:World) (D R:Nat) (l:List Pc) (w':World):Prop:=∃ R',Dp w' base D R' l∧(R'=R∨w.heap.size≤R')∧But D R w w'
theorem Dp.put {w w':World} {base D R R' c:Nat} {l l':List Pc} {v:Value} (h:Dp w base D R l) (hb:But D R w w') (hD:Boxed w' D 159 v) (hr:Row w' base R' c l') (hR:R'=R∨w.heap.size≤R') :
  MadeP base w D R l' (w'.setCell ⟨D,0,none⟩ (.slice (some ⟨R',0,none⟩) l'.length c)):=by
 obtain ⟨cur,h3,_⟩:=hr.block
 have hne:R'≠D:=by
  rintro rfl
  have:=(show w'.heap[R']?=_ from hD).symm.trans h3
  simp at this
 exact ⟨R',⟨h.low,c,hD.set _,hr.kept (Below.heap_setCell _ _ _ _ hne)⟩,hR,hb.set 0 _⟩
theorem pcClone_any {w:World} {b:Nat} {l:List Pc} (c:Nat) (h:PcsAt w b l) (h0:0<l.length) (hm:l.length≤1000000) :
  Calls Tryz.prog 144 #[.slice (some ⟨b,0,none⟩) l.length c] w fun e w'=>∃ g cap,e=.returned (.slice (some ⟨g,0,none⟩) l.length cap)∧Row w' w.heap.size g cap l∧Below w.heap.size w w':=by
 obtain ⟨i0,hi,hz0,hz1,hz2⟩:=info_parts Tryz.infoPc
 have K:Calls Tryz.prog 144 _ _ _:=AnyE.slices_Clone Tryz.laysSlgn41 i0 _ 4 24 hi hz0 hz1 hz2 rfl (by omega) Tryz.sizeOf141 b 0 l.length c (pcs l) w (pcs_length l) (by unfold maxLen;omega) (by omega)
  (fun j u hu=>by rw [Nat.zero_add];exact h j u hu) pcs_one
 refine K.mono ?_
 rintro e w' ⟨v,rfl,h1,_,h2⟩
 obtain ⟨g,cap,rfl,h3⟩:=Row.of_own h1 h0
 exact ⟨g,cap,rfl,h3,h2⟩
end Go.Proofs.YtbbjileignefbaaGreatDoor
