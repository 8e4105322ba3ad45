/- Part 3 of the texts that the proofs of this seat share: Usual, LiG, UsualKept, OpenCells, StepArg, TrodAt, OpenJob, JobWant, PanelSpec, StyleMath, PlaceRef, RefPanel, RefHalf. -/
import Derived.Test.YtabinmabggnhbaaPart2
import Derived.Deep.Slices
import Derived.Deep.Fields
import Derived.OpenShut
import Derived.Lib.SmallJoins
import Derived.Test.YtabinmabggnhbaaPart1
import Derived.Test.YtabinmabggnhbaaProg
import Derived.RowKit3
import Derived.SliceStrings
import Derived.Deep.DeepCutAuto
set_option linter.unusedSimpArgs false
set_option linter.unusedVariables false
namespace Go.Proofs.Ytabinmabggnhbaa
open Go.RowKit
def usualL:List Int:=[16,0,0,148000,210000,3000,5000,5000,5000,0,1,1,640000,900000,10000,12000,8000,100,1,1,0,5000,3000,100,20000,5000,10,0]
def usualN (i:Nat):Int:=usualL.getD i 0
def usualF:Sc:=⟨2,2,[⟨3,1,false⟩,⟨1,1,false⟩]⟩
def usualJ:Jb:=⟨[98,111,111,107],usualN,usualF,[]⟩
theorem keep_sets (w:World) (B o:Nat) (ws:List Value):∀ p:Addr,p.block≠B→∀ v,w.cell? p=some v→(w.setCells B o ws).cell? p=some v:=fun p hp v hv=>by
 rw [World.cell?_setCells_out B ws o w p (fun e _=>absurd e hp)]
 exact hv
theorem wpList_build_job {ops:Array Oper} {rest:List Oper} {o:Oper} {a:Act} {w:World} {Q:Exit→Act→World→Prop} (hg:o.guard=none) (parts:Array (Nat×Operand)) (ho:o.op=.build 29 parts) (cells:Array Value)
  (hc:Try.prog.built 29 (parts.map fun (i,x)=>(i,a.eval x)).toList=some cells) (h:wpList Try.prog ops Q rest (a.put o.dst (.agg cells)) w):wpList Try.prog ops Q (o :: rest) a w :=
 wpList_build_to hg _ parts ho cells hc h
set_option maxRecDepth 100000 in
theorem refUsual_any (w:World):Calls Try.prog 23 #[] w fun e w'=>∃ cs,e=.returned (.agg cs.toArray)∧JobF w.heap.size w' cs usualJ∧Below w.heap.size w w':=by
 have HR:=Bx.new w 29 zeroL
 have HB:=up_alloc (Below.refl w.heap.size w) (.cells zeroL.toArray 29)
 have HZ:=World.size_alloc w (.cells zeroL.toArray 29)
 obtain ⟨w1,hw1⟩:∃ w1,w.alloc (.cells zeroL.toArray 29)=w1:=⟨_,rfl⟩
 have R2:=HR.later (by decide) (up_alloc (Below.refl _ _) (.cells #[.int .i64 3,.int .i64 1,.bool false,.int .i64 1,.int .i64 1,.bool false] 61))
 have B2:=up_alloc HB (.cells #[.int .i64 3,.int .i64 1,.bool false,.int .i64 1,.int .i64 1,.bool false] 61)
 have S2:=Bx.new (w.alloc (.cells zeroL.toArray 29)) 61 [.int .i64 3,.int .i64 1,.bool false,.int .i64 1,.int .i64 1,.bool false]
 rw [hw1] at R2 B2 S2 HZ
 have HR2:=Lib.hid R2;have HB2:=Lib.hid B2;have HS2:=Lib.hid S2;have HZ2:=Lib.hid HZ;have HW:=Lib.hid hw1
 clear R2 B2 S2 HR HB HZ hw1
 go_enter Try.func23,Try.ntmps23
 go_wp2_with (first
  | (refine wpList_alloc_to rfl 29 rfl _ _ (job_alloc _) ?_;simp only [Act.put,HW.out,List.setIfInBounds_toArray,List.set_cons_succ,List.set_cons_zero])
  | (refine wpList_build_job rfl _ rfl (jobL (tx usualJ.t) usualN 2 2 (.slice (some ⟨w1.heap.size,0,none⟩) 2 2) (.slice none 0 0)).toArray ?_ ?_;kernel_rfl;simp only [Act.put,List.setIfInBounds_toArray,List.set_cons_succ,List.set_cons_zero])
  | (refine wpList_store_job rfl _ _ rfl w.heap.size rfl zeroL (jobL (tx usualJ.t) usualN 2 2 (.slice (some ⟨w1.heap.size,0,none⟩) 2 2) (.slice none 0 0)) rfl HR2.out rfl rfl (job_one _ _ _ _ _ _ _ _ _ _) ?_;simp only [Act.put]))
 have hz:=HZ2.out
 have R3:=HR2.out.sets (ws:=jobL (tx usualJ.t) usualN 2 2 (.slice (some ⟨w1.heap.size,0,none⟩) 2 2) (.slice none 0 0)) rfl
 have B3:=below_setCells (Nat.le_refl w.heap.size) (jobL (tx usualJ.t) usualN 2 2 (.slice (some ⟨w1.heap.size,0,none⟩) 2 2) (.slice none 0 0)) 0 _ HB2.out
 have S3:=sets_far HS2.out (show w1.heap.size≠w.heap.size by omega) 0 (jobL (tx usualJ.t) usualN 2 2 (.slice (some ⟨w1.heap.size,0,none⟩) 2 2) (.slice none 0 0))
 refine bodyPost_ret (v:=.agg (jobL (tx usualJ.t) usualN 2 2 (.slice (some ⟨w1.heap.size,0,none⟩) 2 2) (.slice none 0 0)).toArray) (results_wide Try.results23 w.heap.size rfl _ _ R3.range Try.underlying29 rfl infoJob) rfl
  ⟨_,rfl,⟨some ⟨w1.heap.size,0,none⟩,2,none,0,rfl,.inr ⟨w1.heap.size,0,rfl,by omega,fun j p hp=>?_⟩,.inl rfl⟩,B3⟩
 match j,hp with
 | 0,hp=>cases hp;exact ⟨S3.cell 0 rfl,S3.cell 1 rfl,S3.cell 2 rfl⟩
 | 1,hp=>cases hp;exact ⟨S3.cell 3 rfl,S3.cell 4 rfl,S3.cell 5 rfl⟩
 | j+2,hp=>simp [usualJ,usualF] at hp
end Go.Proofs.Ytabinmabggnhbaa
namespace Go.Proofs.Ytabinmabggnhbaa
open Go.RowKit
def LiG (G:Nat→Prop) (w:World) (a:Option Addr) (l:List Sp):Prop:=l=[]∨∃ b off,a=some ⟨b,off,none⟩∧G b∧InS w b off l
section
variable {G G':Nat→Prop} {w w':World} {a:Option Addr} {c:Nat} {l:List Sp} {base:Nat}
theorem LiG.inL (h:LiG G w a l):InL w a l:=h.imp id fun ⟨b,off,e,_,h⟩=>⟨b,off,e,h⟩
theorem LiG.mono (h:LiG G w a l) (hG:∀ b,G b→G' b):LiG G' w a l:=h.imp id fun ⟨b,off,e,g,h⟩=>⟨b,off,e,hG _ g,h⟩
theorem LiG.up (h:LiG G w a l) (hb:Below w.heap.size w w'):LiG G w' a l:=h.imp id fun ⟨b,off,e,g,h⟩=>⟨b,off,e,g,h.up hb⟩
theorem LiG.old (h:LiG G w a l):LiG (fun b=>G b∧b<w.heap.size) w a l:=by
 rcases h with h | ⟨b,off,e,g,h⟩
 ·exact .inl h
 ·cases l with
  | nil=>exact .inl rfl
  | cons p r=>exact .inr ⟨b,off,e,⟨g,World.block_lt_of_cell? w _ (h 0 p rfl).1⟩,h⟩
theorem LiG.keep {B:Nat} (h:LiG G w a l) (hB:¬ G B) (hk:∀ p:Addr,p.block≠B→∀ v,w.cell? p=some v→w'.cell? p=some v):LiG G w' a l :=
 h.imp id fun ⟨b,off,e,g,h⟩=>⟨b,off,e,g,fun i q hq=>by
  have hne:b≠B:=fun e=>hB (e ▸ g)
  obtain ⟨c0,c1,c2⟩:=h i q hq
  exact ⟨hk _ hne _ c0,hk _ hne _ c1,hk _ hne _ c2⟩⟩
theorem LiG.set (h:LiG G w a l) {p:Addr} (hp:¬ G p.block) (x:Value):LiG G (w.setCell p x) a l :=
 h.keep hp fun q hq v hv=>(World.cell?_setCell_far _ _ _ _ (Ne.symm hq)).trans hv
theorem InF.liG (h:InF base w a l):LiG (base≤·) w a l:=h
theorem InL.liG (h:InL w a l):LiG (·<w.heap.size) w a l:=(show LiG (fun _=>True) w a l from h.imp id fun ⟨b,off,e,h⟩=>⟨b,off,e,trivial,h⟩).old.mono fun _ h=>h.2
end
end Go.Proofs.Ytabinmabggnhbaa
namespace Go.Proofs.Ytabinmabggnhbaa
open Go.RowKit
theorem usual_kept {w w':World} {B:Nat} {cs:List Value} (h:JobA w cs usualJ) (hB:w.heap.size≤B) (hk:∀ p:Addr,p.block≠B→∀ v,w.cell? p=some v→w'.cell? p=some v):JobA w' cs usualJ:=by
 obtain ⟨a,c,a',c',e,h1,h2⟩:=h
 exact ⟨a,c,a',c',e,(h1.liG.keep (B:=B) (by omega) hk).inL,.inl rfl⟩
end Go.Proofs.Ytabinmabggnhbaa
namespace Go.Proofs.Ytabinmabggnhbaa
open Go.Deep Go.ChangeShapes Go.WideShapes
def FitV (u:Option TypeDesc) (v:Value):Prop:=match u with
 | some (.int k)=>∃ z,v=.int k z∧(Lit.int k z).wf=true
 | some .bool=>∃ b,v=.bool b
 | some .string=>∃ s:ByteArray,v=.string s∧s.size≤maxLen
 | _=>True
theorem list_of {α:Type} {Q:Nat→α→Prop}:∀ (n:Nat),(∀ i,i<n→∃ x,Q i x)→∃ l:List α,l.length=n∧∀ i x,l[i]?=some x→Q i x
 | 0,_=>⟨[],rfl,fun i x h=>by simp at h⟩
 | n+1,h=>by
  obtain ⟨l,hl,hq⟩:=list_of n (fun i hi=>h i (by omega))
  obtain ⟨x,hx⟩:=h n (by omega)
  refine ⟨l++[x],by simp [hl],fun i y hy=>?_⟩
  rcases Nat.lt_or_ge i n with hi | hi
  ·rw [List.getElem?_append_left (by omega)] at hy
   exact hq i y hy
  ·rw [List.getElem?_append_right (by omega),List.getElem?_singleton] at hy
   split at hy
   ·cases hy
    obtain rfl:i=n:=by omega
    exact hx
   ·cases hy
section
variable {H:Type} {enc:TypeId×Value→H} {P:Program} {w:World} {base:Nat} {spare:Nat→Bool} {held:Bool}
theorem trod_fit {t:TypeId} {fuel:Nat} {cs:List Value} {x:DataW H×List MemPlace} (hc:cs.length=1) (h:DataW.trod enc P w base spare held fuel t cs=some x):∃ v,cs=[v]∧FitV (P.underlying t) v:=by
 obtain ⟨v,rfl⟩:=List.length_eq_one_iff.1 hc
 refine ⟨v,rfl,?_⟩
 unfold FitV
 split
 ·rename_i k hk
  obtain ⟨z,hz,_,hw⟩:=DataW.trod_int hk h
  exact ⟨z,by simpa using hz,hw⟩
 ·rename_i hk
  obtain ⟨b,hb,_⟩:=DataW.trod_bool hk h
  exact ⟨b,by simpa using hb⟩
 ·rename_i hk
  obtain ⟨s,hs,_,hw⟩:=DataW.trod_string hk h
  exact ⟨s,by simpa using hs,hw⟩
 ·trivial
theorem fit_int {t:TypeId} {k:IntKind} {p:Addr} (ht:P.underlying t=some (.int k)) (h:∃ v,w.cell? p=some v∧FitV (P.underlying t) v):∃ z,w.cell? p=some (.int k z)∧(Lit.int k z).wf=true:=by
 obtain ⟨v,hc,hv⟩:=h
 rw [ht] at hv
 obtain ⟨z,rfl,hz⟩:=hv
 exact ⟨z,hc,hz⟩
theorem fit_bool {t:TypeId} {p:Addr} (ht:P.underlying t=some .bool) (h:∃ v,w.cell? p=some v∧FitV (P.underlying t) v):∃ z,w.cell? p=some (.bool z):=by
 obtain ⟨v,hc,hv⟩:=h
 rw [ht] at hv
 obtain ⟨z,rfl⟩:=hv
 exact ⟨z,hc⟩
theorem open_cell_structs {t e:TypeId} {fs:Array Field} {fuel:Nat} {cs:List Value} {x:DataW H×List MemPlace} (ht:P.underlying t=some (.slice e)) (he:P.underlying e=some (.struct fs))
  (hone:oneCellFields P fs=true) (ce:P.cellsOf e=fs.size) (h:DataW.trod enc P w base spare held fuel t cs=some x) :
  cs=[.slice none 0 0]∨∃ (a:Addr) (len cap:Nat),cs=[.slice (some a) len cap]∧len≤cap∧cap≤maxLen ∧
   ∀ i,i<len→∀ j f,fs[j]?=some f→∃ v,w.cell? (a.add (i*fs.size+j))=some v∧FitV (P.underlying f.type) v:=by
 rcases open_slice ht h with ⟨h0,_⟩ | ⟨a,len,cap,m,n,D,Pl,rfl,hb,hl,hm,hmm,rfl,hx⟩
 ·exact .inl h0
 right
 have hlm:len≤m:=by rw [hmm];split<;>omega
 refine ⟨a,len,cap,rfl,hl,hm,fun i hi j f hfj=>?_⟩
 have hj:j<fs.size:=(Array.getElem?_eq_some_iff.1 hfj).1
 obtain ⟨cs',h1,h2⟩:=hx i (by omega)
 rw [ce] at h1
 obtain ⟨_,hlen,hcell⟩:=World.cells?_some h1
 obtain ⟨xs,k,_,_,_,hxl,hf⟩:=DataW.trod_struct he h2
 obtain ⟨o,c⟩:=hone_of hone j _ hfj
 have g:=hf j _ hfj
 rw [o,c,List.getElem?_eq_getElem (by omega)] at g
 obtain ⟨v,hv,hw⟩:=trod_fit (by rw [List.length_take,List.length_drop];omega) g
 have e1:=hcell j hj
 rw [Go.Deep.add_add] at e1
 have e2:cs'[j]?=some v:=by
  have:((cs'.drop j).take 1)[0]?=some v:=by rw [hv];rfl
  simpa using this
 exact ⟨v,e1.trans e2,hw⟩
end
end Go.Proofs.Ytabinmabggnhbaa
namespace Go.Proofs.Ytabinmabggnhbaa
open Go.RowKit
theorem steps_of (a:Option Addr) (len cap:Nat) (w:World)
  (h:(a=none∧len=0∧cap=0)∨∃ x,a=some x∧len≤cap∧cap≤maxLen∧∀ i,i<len→(∃ z,w.cell? (x.add (i*3+0))=some (.int .i64 z)∧(Lit.int .i64 z).wf=true)∧(∃ z,w.cell? (x.add (i*3+1))=some (.int .i64 z)∧(Lit.int .i64 z).wf=true)∧(∃ z,w.cell? (x.add (i*3+2))=some (.bool z))) :
  ∃ l:List Sp,l.length=len∧(l=[]∨∃ b off,a=some ⟨b,off,none⟩∧InS w b off l):=by
 rcases h with ⟨rfl,rfl,rfl⟩ | ⟨x,rfl,hl,hm,hc⟩
 ·exact ⟨[],rfl,.inl rfl⟩
 ·by_cases h0:len=0
  ·subst h0;exact ⟨[],rfl,.inl rfl⟩
  obtain ⟨b,off,spot⟩:=x
  have hspot:spot=none:=by
   obtain ⟨⟨z,hz,_⟩,_⟩:=hc 0 (by omega)
   simpa [Addr.add] using World.cell?_spot hz
  subst hspot
  obtain ⟨l,e,hq⟩:=list_of (Q:=fun i (p:Sp)=>w.cell? ⟨b,off+i*3,none⟩=some (.int .i64 p.d)∧w.cell? ⟨b,off+i*3+1,none⟩=some (.int .i64 p.n)∧w.cell? ⟨b,off+i*3+2,none⟩=some (.bool p.u)) len (fun i hi=>by
   obtain ⟨⟨d,h1,_⟩,⟨n,h2,_⟩,u,h3⟩:=hc i hi
   rw [Go.WideShapes.add_plain] at h1 h2 h3
   exact ⟨⟨d,n,u⟩,by simpa using h1,by rw [Nat.add_assoc];exact h2,by rw [Nat.add_assoc];exact h3⟩)
  exact ⟨l,e,.inr ⟨b,off,rfl,hq⟩⟩
end Go.Proofs.Ytabinmabggnhbaa
namespace Go.Proofs.Ytabinmabggnhbaa
open Go.RowKit Go.Deep Go.ChangeShapes Go.WideShapes
set_option maxRecDepth 100000
section
variable {H:Type} {enc:TypeId×Value→H} {w:World} {base:Nat} {spare:Nat→Bool} {held:Bool}
theorem trod_int_at {fuel o:Nat} {cs:List Value} {y:DataW H×List MemPlace} (ho:o<cs.length) (h:DataW.trod enc Try.prog w base spare held fuel 3 ((cs.drop o).take 1)=some y):∃ z,cs[o]?=some (.int .i64 z)∧(Lit.int .i64 z).wf=true:=by
 obtain ⟨v,hv,hw⟩:=trod_fit (by rw [List.length_take,List.length_drop];omega) h
 rw [Try.underlying3] at hw
 obtain ⟨z,rfl,hz⟩:=hw
 refine ⟨z,?_,hz⟩
 have:((cs.drop o).take 1)[0]?=some (.int .i64 z):=by rw [hv];rfl
 simpa [ho] using this
theorem take_take_drop {cs:List Value} {o k i:Nat} (h:i<k):(((cs.drop o).take k).drop i).take 1=(cs.drop (o+i)).take 1:=by
 rw [List.drop_take,List.take_take,List.drop_drop,Nat.min_eq_left (by omega)]
theorem trod_at {t ft:TypeId} {i o fuel:Nat} {cs:List Value} {x:DataW H×List MemPlace} (hs:(match Try.prog.underlying t with | some (.struct fs)=>(fs[i]?).map fun f=>(f.type,f.offset) | _=>none)=some (ft,o))
  (h:DataW.trod enc Try.prog w base spare held fuel t cs=some x):∃ m y,DataW.trod enc Try.prog w base spare held m ft ((cs.drop o).take (Try.prog.cellsOf ft))=some y:=by
 cases hu:Try.prog.underlying t with
 | none=>rw [hu] at hs;cases hs
 | some d =>
  rw [hu] at hs
  cases d
  case struct fs =>
   simp only [Option.map_eq_some_iff,Prod.mk.injEq] at hs
   obtain ⟨f,hf0,rfl,rfl⟩:=hs
   obtain ⟨xs,m,_,_,_,hxl,hf⟩:=DataW.trod_struct hu h
   have g:=hf i f hf0
   have hi:i<xs.length:=by rw [hxl];exact (Array.getElem?_eq_some_iff.1 hf0).1
   rw [List.getElem?_eq_getElem hi] at g
   exact ⟨m,_,g⟩
  all_goals cases hs
theorem trod_int_field {t:TypeId} {i o fuel:Nat} {cs:List Value} {x:DataW H×List MemPlace} (hs:(match Try.prog.underlying t with | some (.struct fs)=>(fs[i]?).map fun f=>(f.type,f.offset) | _=>none)=some (3,o)) (ho:o<cs.length)
  (h:DataW.trod enc Try.prog w base spare held fuel t cs=some x):∃ z,cs[o]?=some (.int .i64 z)∧(Lit.int .i64 z).wf=true:=by
 obtain ⟨m,y,g⟩:=trod_at hs h
 rw [show Try.prog.cellsOf 3=1 by kernel_rfl] at g
 exact trod_int_at ho g
theorem wf_int {z:Int} (h:(Lit.int .i64 z).wf=true):-9223372036854775808≤z∧z≤9223372036854775807:=by
 simp [Lit.wf,IntKind.min,IntKind.max,IntKind.bits,IntKind.signed] at h
 omega
end
end Go.Proofs.Ytabinmabggnhbaa
namespace Go.Proofs.Ytabinmabggnhbaa
open Go.RowKit Go.Deep Go.ChangeShapes Go.WideShapes
set_option maxRecDepth 100000
section
variable {H:Type} {enc:TypeId×Value→H} {w:World} {base:Nat} {spare:Nat→Bool} {held:Bool}
theorem textsA_of (a:Option Addr) (len cap:Nat) (w:World)
  (h:(a=none∧len=0∧cap=0)∨∃ x,a=some x∧len≤cap∧cap≤maxLen∧∀ i,i<len→∃ z:ByteArray,w.cell? (x.add i)=some (.string z)∧z.size≤maxLen) :
  ∃ ls:List (List UInt8),ls.length=len∧TxA w a cap ls∧∀ x∈ls,x.length≤maxLen:=by
 rcases h with ⟨rfl,rfl,rfl⟩ | ⟨x,rfl,hl,hm,hc⟩
 ·exact ⟨[],rfl,.inl rfl,by simp⟩
 ·by_cases h0:len=0
  ·subst h0;exact ⟨[],rfl,.inl rfl,by simp⟩
  obtain ⟨b,off,spot⟩:=x
  have hspot:spot=none:=by
   obtain ⟨z,hz,_⟩:=hc 0 (by omega)
   simpa [Addr.add] using World.cell?_spot hz
  subst hspot
  obtain ⟨l,e,hq⟩:=list_of (Q:=fun i (p:List UInt8)=>w.cell? ⟨b,off+i,none⟩=some (.string (tx p))∧p.length≤maxLen) len (fun i hi=>by
   obtain ⟨z,h1,h2⟩:=hc i hi
   rw [Go.WideShapes.add_plain] at h1
   exact ⟨z.data.toList,by rw [tx_data];exact h1,by rw [size_data];exact h2⟩)
  refine ⟨l,e,.inr ⟨b,off,rfl,fun i p hp=>(hq i p hp).1,by omega,hm⟩,fun p hp=>?_⟩
  obtain ⟨i,hi⟩:=List.getElem?_of_mem hp
  exact (hq i p hi).2
theorem open_jobF {fuel:Nat} {cs:List Value} {x:DataW H×List MemPlace} (hl:cs.length=33) (h:DataW.trod enc Try.prog w base spare held fuel 29 cs=some x) :
  ∃ j:Jb,(JobA w cs j∧j.t.length≤maxLen∧∀ p∈j.ls,p.length≤maxLen)∧(∀ i,-9223372036854775808≤j.n i∧j.n i≤9223372036854775807)∧j.f.c≤9223372036854775807∧j.f.r≤9223372036854775807:=by
 obtain ⟨z0,h0,g0⟩:=trod_int_field (i:=1) (o:=1) (by kernel_rfl) (by omega) h
 obtain ⟨z3,h3,g3⟩:=trod_int_field (i:=3) (o:=4) (by kernel_rfl) (by omega) h
 obtain ⟨z4,h4,g4⟩:=trod_int_field (i:=4) (o:=5) (by kernel_rfl) (by omega) h
 obtain ⟨z5,h5,g5⟩:=trod_int_field (i:=5) (o:=6) (by kernel_rfl) (by omega) h
 obtain ⟨z6,h6,g6⟩:=trod_int_field (i:=6) (o:=7) (by kernel_rfl) (by omega) h
 obtain ⟨z7,h7,g7⟩:=trod_int_field (i:=7) (o:=8) (by kernel_rfl) (by omega) h
 obtain ⟨z8,h8,g8⟩:=trod_int_field (i:=8) (o:=9) (by kernel_rfl) (by omega) h
 obtain ⟨z9,h9,g9⟩:=trod_int_field (i:=9) (o:=10) (by kernel_rfl) (by omega) h
 obtain ⟨z10,h10,g10⟩:=trod_int_field (i:=10) (o:=11) (by kernel_rfl) (by omega) h
 obtain ⟨z11,h11,g11⟩:=trod_int_field (i:=13) (o:=16) (by kernel_rfl) (by omega) h
 obtain ⟨z12,h12,g12⟩:=trod_int_field (i:=14) (o:=17) (by kernel_rfl) (by omega) h
 obtain ⟨z13,h13,g13⟩:=trod_int_field (i:=15) (o:=18) (by kernel_rfl) (by omega) h
 obtain ⟨z14,h14,g14⟩:=trod_int_field (i:=16) (o:=19) (by kernel_rfl) (by omega) h
 obtain ⟨z15,h15,g15⟩:=trod_int_field (i:=17) (o:=20) (by kernel_rfl) (by omega) h
 obtain ⟨z16,h16,g16⟩:=trod_int_field (i:=18) (o:=21) (by kernel_rfl) (by omega) h
 obtain ⟨z17,h17,g17⟩:=trod_int_field (i:=19) (o:=22) (by kernel_rfl) (by omega) h
 obtain ⟨z18,h18,g18⟩:=trod_int_field (i:=20) (o:=23) (by kernel_rfl) (by omega) h
 obtain ⟨z19,h19,g19⟩:=trod_int_field (i:=21) (o:=24) (by kernel_rfl) (by omega) h
 obtain ⟨z20,h20,g20⟩:=trod_int_field (i:=22) (o:=25) (by kernel_rfl) (by omega) h
 obtain ⟨z21,h21,g21⟩:=trod_int_field (i:=23) (o:=26) (by kernel_rfl) (by omega) h
 obtain ⟨z22,h22,g22⟩:=trod_int_field (i:=24) (o:=27) (by kernel_rfl) (by omega) h
 obtain ⟨z23,h23,g23⟩:=trod_int_field (i:=25) (o:=28) (by kernel_rfl) (by omega) h
 obtain ⟨z24,h24,g24⟩:=trod_int_field (i:=26) (o:=29) (by kernel_rfl) (by omega) h
 obtain ⟨z25,h25,g25⟩:=trod_int_field (i:=27) (o:=30) (by kernel_rfl) (by omega) h
 obtain ⟨z26,h26,g26⟩:=trod_int_field (i:=28) (o:=31) (by kernel_rfl) (by omega) h
 obtain ⟨z27,h27,g27⟩:=trod_int_field (i:=29) (o:=32) (by kernel_rfl) (by omega) h
 obtain ⟨mb,yb,gb⟩:=trod_at (i:=2) (o:=2) (ft:=23) (by kernel_rfl) h
 rw [show Try.prog.cellsOf 23=2 by kernel_rfl] at gb
 obtain ⟨z1,h1,g1⟩:=trod_int_field (i:=0) (o:=0) (by kernel_rfl) (by rw [List.length_take,List.length_drop];omega) gb
 obtain ⟨z2,h2,g2⟩:=trod_int_field (i:=1) (o:=1) (by kernel_rfl) (by rw [List.length_take,List.length_drop];omega) gb
 obtain ⟨mf,yf,gf⟩:=trod_at (i:=11) (o:=12) (ft:=26) (by kernel_rfl) h
 rw [show Try.prog.cellsOf 26=3 by kernel_rfl] at gf
 obtain ⟨c,hc,gc⟩:=trod_int_field (i:=0) (o:=0) (by kernel_rfl) (by rw [List.length_take,List.length_drop];omega) gf
 obtain ⟨r,hr,gr⟩:=trod_int_field (i:=1) (o:=1) (by kernel_rfl) (by rw [List.length_take,List.length_drop];omega) gf
 obtain ⟨ms,ys,gs⟩:=trod_at (i:=2) (o:=2) (ft:=24) (by kernel_rfl) gf
 rw [show Try.prog.cellsOf 24=1 by kernel_rfl,take_take_drop (by omega)] at gs
 obtain ⟨ml,yl,gl⟩:=trod_at (i:=12) (o:=15) (ft:=27) (by kernel_rfl) h
 rw [show Try.prog.cellsOf 27=1 by kernel_rfl] at gl
 obtain ⟨mt,yt,gt⟩:=trod_at (i:=0) (o:=0) (ft:=9) (by kernel_rfl) h
 rw [show Try.prog.cellsOf 9=1 by kernel_rfl] at gt
 obtain ⟨T,hT,_,hTz⟩:=DataW.trod_string Try.underlying9 gt
 have hT0:cs[0]?=some (.string T):=by
  have:((cs.drop 0).take 1)[0]?=some (.string T):=by rw [hT];rfl
  simpa using this
 obtain ⟨a,len,cap,es,ws⟩:∃ (a:Option Addr) (len cap:Nat),(cs.drop 14).take 1=[Value.slice a len cap]∧((a=none∧len=0∧cap=0)∨∃ x,a=some x∧len≤cap∧cap≤maxLen∧∀ i,i<len→(∃ z,w.cell? (x.add (i*3+0))=some (.int .i64 z)∧(Lit.int .i64 z).wf=true)∧(∃ z,w.cell? (x.add (i*3+1))=some (.int .i64 z)∧(Lit.int .i64 z).wf=true)∧(∃ z,w.cell? (x.add (i*3+2))=some (.bool z))):=by
  rcases open_cell_structs Try.underlying24 Try.underlying61 (by kernel_rfl) (by kernel_rfl) gs with hcs | ⟨x,l,c,hcs,hl,hm,hV⟩
  ·exact ⟨none,0,0,hcs,.inl ⟨rfl,rfl,rfl⟩⟩
  ·exact ⟨some x,l,c,hcs,.inr ⟨x,rfl,hl,hm,fun i hi=>⟨fit_int Try.underlying3 (hV i hi 0 _ rfl),fit_int Try.underlying3 (hV i hi 1 _ rfl),fit_bool Try.underlying4 (hV i hi 2 _ rfl)⟩⟩⟩
 obtain ⟨a',len',cap',el,wl⟩:∃ (a:Option Addr) (len cap:Nat),(cs.drop 15).take 1=[Value.slice a len cap]∧((a=none∧len=0∧cap=0)∨∃ x,a=some x∧len≤cap∧cap≤maxLen∧∀ i,i<len→∃ z:ByteArray,w.cell? (x.add i)=some (.string z)∧z.size≤maxLen):=by
  rcases open_strings Try.underlying27 Try.underlying9 (by kernel_rfl) gl with ⟨hcs,_⟩ | ⟨x,l,c,ss,hcs,_,hl,hm,hz,_,hcell,hwz⟩
  ·exact ⟨none,0,0,hcs,.inl ⟨rfl,rfl,rfl⟩⟩
  ·refine ⟨some x,l,c,hcs,.inr ⟨x,rfl,hl,hm,fun i hi=>?_⟩⟩
   have hlen:i<ss.length:=by rw [hz];split<;>omega
   exact ⟨_,hcell i hlen,hwz _ (by simp [List.getD_eq_getElem?_getD,List.getElem?_eq_getElem hlen])⟩
 have e14:cs[14]?=some (.slice a len cap):=by
  have:((cs.drop 14).take 1)[0]?=some (.slice a len cap):=by rw [es];rfl
  simpa using this
 have e15:cs[15]?=some (.slice a' len' cap'):=by
  have:((cs.drop 15).take 1)[0]?=some (.slice a' len' cap'):=by rw [el];rfl
  simpa using this
 have e2:cs[2]?=some (.int .i64 z1):=by simpa using h1
 have e3:cs[3]?=some (.int .i64 z2):=by simpa using h2
 have e12:cs[12]?=some (.int .i64 c):=by simpa using hc
 have e13:cs[13]?=some (.int .i64 r):=by simpa using hr
 obtain ⟨l,hll,hI⟩:=steps_of a len cap w ws
 obtain ⟨ls,hls,hA,hz⟩:=textsA_of a' len' cap' w wl
 subst hll hls
 have hall:∀ z∈[z0,z1,z2,z3,z4,z5,z6,z7,z8,z9,z10,z11,z12,z13,z14,z15,z16,z17,z18,z19,z20,z21,z22,z23,z24,z25,z26,z27],-9223372036854775808≤z∧z≤9223372036854775807:=by
  simp only [List.mem_cons,List.not_mem_nil,or_false,forall_eq_or_imp,forall_eq]
  exact ⟨wf_int g0,wf_int g1,wf_int g2,wf_int g3,wf_int g4,wf_int g5,wf_int g6,wf_int g7,wf_int g8,wf_int g9,wf_int g10,wf_int g11,wf_int g12,wf_int g13,wf_int g14,wf_int g15,wf_int g16,wf_int g17,wf_int g18,wf_int g19,wf_int g20,wf_int g21,wf_int g22,wf_int g23,wf_int g24,wf_int g25,wf_int g26,wf_int g27⟩
 obtain ⟨n,hn⟩:∃ n:Nat→Int,n=fun i=>([z0,z1,z2,z3,z4,z5,z6,z7,z8,z9,z10,z11,z12,z13,z14,z15,z16,z17,z18,z19,z20,z21,z22,z23,z24,z25,z26,z27]:List Int).getD i 0:=⟨_,rfl⟩
 refine ⟨⟨T.data.toList,n,⟨c,r,l⟩,ls⟩,⟨⟨a,cap,a',cap',?_,hI,hA⟩,by simp only;rw [size_data];exact hTz,hz⟩,(fun i=>by
  simp only [hn,List.getD_eq_getElem?_getD]
  by_cases hi:i < [z0,z1,z2,z3,z4,z5,z6,z7,z8,z9,z10,z11,z12,z13,z14,z15,z16,z17,z18,z19,z20,z21,z22,z23,z24,z25,z26,z27].length
  ·rw [List.getElem?_eq_getElem hi]
   exact hall _ (List.getElem_mem hi)
  ·rw [List.getElem?_eq_none (by omega)]
   decide),(wf_int gc).2,(wf_int gr).2⟩
 rw [tx_data]
 subst hn
 apply List.ext_getElem?
 intro k
 by_cases hk:k<33
 ·have hw:k=0∨k=1∨k=2∨k=3∨k=4∨k=5∨k=6∨k=7∨k=8∨k=9∨k=10∨k=11∨k=12∨k=13∨k=14∨k=15∨k=16∨k=17∨k=18∨k=19∨k=20∨k=21∨k=22∨k=23∨k=24∨k=25∨k=26∨k=27∨k=28∨k=29∨k=30∨k=31∨k=32:=by omega
  rcases hw with rfl | rfl | rfl | rfl | rfl | rfl | rfl | rfl | rfl | rfl | rfl | rfl | rfl | rfl | rfl | rfl | rfl | rfl | rfl | rfl | rfl | rfl | rfl | rfl | rfl | rfl | rfl | rfl | rfl | rfl | rfl | rfl | rfl
  all_goals first
   | exact hT0
   | exact e2
   | exact e3
   | exact e12
   | exact e13
   | exact e14
   | exact e15
   | exact h0
   | exact h3
   | exact h4
   | exact h5
   | exact h6
   | exact h7
   | exact h8
   | exact h9
   | exact h10
   | exact h11
   | exact h12
   | exact h13
   | exact h14
   | exact h15
   | exact h16
   | exact h17
   | exact h18
   | exact h19
   | exact h20
   | exact h21
   | exact h22
   | exact h23
   | exact h24
   | exact h25
   | exact h26
   | exact h27
 ·rw [List.getElem?_eq_none (by omega),List.getElem?_eq_none (by rw [jobL_length];omega)]
theorem open_jobW {fuel:Nat} {cs:List Value} {x:DataW H×List MemPlace} (hl:cs.length=33) (h:DataW.trod enc Try.prog w base spare held fuel 29 cs=some x) :
  ∃ j:Jb,(JobA w cs j∧j.t.length≤maxLen∧∀ p∈j.ls,p.length≤maxLen)∧∀ i,-9223372036854775808≤j.n i∧j.n i≤9223372036854775807:=by
 obtain ⟨j,h1,h2,-⟩:=open_jobF hl h
 exact ⟨j,h1,h2⟩
end
end Go.Proofs.Ytabinmabggnhbaa
namespace Go.Proofs.Ytabinmabggnhbaa
open Go.RowKit
section
variable {ops:Array Oper} {rest:List Oper} {o:Oper} {a:Act} {w:World} {Q:Exit→Act→World→Prop} {C:World→Prop} {K:Act→Prop}
theorem wpList_load_job_want (x:Operand) (ho:o.op=.load 29 x) (hw:Region.wanted o (yielded ops a.tmps)=true) (b:Nat) (hx:a.eval x=.pointer (some ⟨b,0,none⟩)) (cs:List Value) (hb:Bx w b cs) (hl:cs.length=33)
  (h:wpList Try.prog ops Q rest (a.put o.dst (.agg cs.toArray)) w):wpList Try.prog ops Q (o :: rest) a w:=by
 unfold wpList
 rw [if_pos hw]
 refine .inl ?_
 unfold Oper.wp execOp
 simp only [ho,hx,Instr.loadAt,Instr.sureAddr,Sem.run_bind,Sem.run_pure,Result.andThen_ok,run_loadVar_mid w b 0 29 cs _ hb.range Try.underlying29 rfl (by rw [hl];exact infoJob)]
 exact h
end
end Go.Proofs.Ytabinmabggnhbaa
namespace Go.Proofs.Ytabinmabggnhbaa
open Go.RowKit
def rcV (r:Int×Int×Int×Int):Value:=.agg #[.int .i64 r.1,.int .i64 r.2.1,.int .i64 r.2.2.1,.int .i64 r.2.2.2]
def plV (r:Int×Int×Int):Value:=.agg #[.int .i64 r.1,.int .i64 r.2.1,.int .i64 r.2.2]
def PanSize:Prop:=∀ (cs:List Value) (j:Jb) (w:World),JobA w cs j →
 Calls Try.prog 77 #[.agg cs.toArray] w fun e w'=>e=.returned (.tuple #[.int .i64 (sizW j.n),.int .i64 (sizH j.n)])∧Below w.heap.size w w'
def PanBlock:Prop:=∀ (cs:List Value) (j:Jb) (c r k:Int) (sa:Option Addr) (sn sc:Nat) (w:World),JobA w cs j→I64 c→I64 r→I64 k →
 Calls Try.prog 53 #[.agg cs.toArray,.agg #[.int .i64 c,.int .i64 r,.slice sa sn sc],.int .i64 k] w fun e w'=>e=.returned (.tuple #[.int .i64 (w64 (sizW j.n*c)),.int .i64 (w64 (sizH j.n*r*k))])∧Below w.heap.size w w'
theorem wf_i64 {z:Int} (h:(Lit.int .i64 z).wf=true):I64 z:=wf_int h
def styB (s:Int):Bool:=decide (1≤s)&&decide (s≤4)
def acrB (s:Int):Bool:=decide (s=2) || decide (s=4)
def platesS (s:Int):Int:=if styB s=true then (if 3≤s then 1 else 2) else 0
def flipS (n:Nat→Int):Int×Int×Int:=if styB (n 11)=true then (if acrB (n 11)=true then (6,0,n 13) else (4,n 12,0)) else (0,0,0)
def lowS (n:Nat→Int):Int:=if acrB (n 11)=true then max (n 15) (n 16) else n 15
def topS (n:Nat→Int):Int:=if acrB (n 11)=true then w64 (n 13-max (n 15) (n 16)) else w64 (n 13-n 16)
def areaS (n:Nat→Int):Int×Int×Int×Int:=if styB (n 11)=true then (n 14,lowS n,w64 (n 12-n 14),topS n) else (0,0,0,0)
def regionS (n:Nat→Int):Int×Int×Int×Int :=
 ((areaS n).1,(areaS n).2.1,if n 11=3 then min (n 12 / 2) (areaS n).2.2.1 else (areaS n).2.2.1,if n 11=4 then min (n 13 / 2) (areaS n).2.2.2 else (areaS n).2.2.2)
theorem refPdo_core (t X Y x y a b c d p q s1 s2:Int) (w:World) (e1:IntKind.i64.wrap (p+X)=s1) (e2:IntKind.i64.wrap (q+Y)=s2)
  (KO:∀ w,Calls Try.prog 71 #[.int .i64 t] w fun e w'=>e=.returned (.agg #[.int .i64 a,.int .i64 b,.int .i64 c,.int .i64 d])∧Below w.heap.size w w')
  (KD:∀ w,Calls Try.prog 72 #[.agg #[.int .i64 a,.int .i64 b,.int .i64 c,.int .i64 d],.int .i64 x,.int .i64 y] w fun e w'=>e=.returned (.tuple #[.int .i64 p,.int .i64 q])∧Below w.heap.size w w') :
  Calls Try.prog 49 #[.agg #[.int .i64 t,.int .i64 X,.int .i64 Y],.agg #[.int .i64 x,.int .i64 y]] w fun e w'=>e=.returned (.agg #[.int .i64 s1,.int .i64 s2])∧Below w.heap.size w w':=by
 have HO:=Lib.hid KO;have HD:=Lib.hid KD
 clear KO KD
 go_enter Try.func49,Try.ntmps49
 go_wp2_with fail
 have A:=((Bx.new w 35 [.int .i64 t,.int .i64 X,.int .i64 Y]).alloc (.cells #[.int .i64 x,.int .i64 y] 23)).alloc (.cells #[.int .i64 0,.int .i64 0] 23)
 have C:=(Bx.new (w.alloc (.cells #[.int .i64 t,.int .i64 X,.int .i64 Y] 35)) 23 [.int .i64 x,.int .i64 y]).alloc (.cells #[.int .i64 0,.int .i64 0] 23)
 have R:=Bx.new ((w.alloc (.cells #[.int .i64 t,.int .i64 X,.int .i64 Y] 35)).alloc (.cells #[.int .i64 x,.int .i64 y] 23)) 23 [.int .i64 0,.int .i64 0]
 simp only [World.size_alloc] at C R
 have B1:=up_alloc (up_alloc (up_alloc (Below.refl _ w) (.cells #[.int .i64 t,.int .i64 X,.int .i64 Y] 35)) (.cells #[.int .i64 x,.int .i64 y] 23)) (.cells #[.int .i64 0,.int .i64 0] 23)
 generalize ((w.alloc (.cells #[.int .i64 t,.int .i64 X,.int .i64 Y] 35)).alloc (.cells #[.int .i64 x,.int .i64 y] 23)).alloc (.cells #[.int .i64 0,.int .i64 0] 23)=w1 at *
 have HB:=Lib.hid B1;clear B1
 have a0:=fun u:Later w1=>u.cell (A.cell 0 rfl);have a1:=fun u:Later w1=>u.cell (A.cell 1 rfl);have a2:=fun u:Later w1=>u.cell (A.cell 2 rfl)
 have c0:=fun u:Later w1=>u.cell (C.cell 0 rfl);have c1:=fun u:Later w1=>u.cell (C.cell 1 rfl)
 clear A C
 refine later_start (w:=w1) ?_
 intro u
 refine wp_region_later (by kernel_rfl) (by kernel_rfl) ?_
 repeat (go_big_quiet_step (first
  | (go_at_call 71;with_reducible exact Later.call (HO.out _))
  | (go_at_call 72;with_reducible exact Later.call (HD.out _))))
 refine wpQuiet_nil ?_
 rintro _ ⟨u2,rfl⟩
 have R2:=R.up u2.up
 have a1':=a1 u2;have a2':=a2 u2
 have B:=up_trans HB.out u2.up
 have r0:=R2.cell 0 rfl;have r1:=R2.cell 1 rfl;have rf:=R2.free
 clear R R2 a0 a1 a2 c0 c1
 generalize u2.now=w2 at *
 go_wp2
 refine bodyPost_ret (v:=.agg #[.int .i64 s1,.int .i64 s2]) (by simp [results,Try.results49,go_sem,r0,r1]) rfl ⟨rfl,?_⟩
 repeat (first | (with_reducible exact B) | (with_reducible apply up_alloc) | (with_reducible refine up_set ?_ (by simp only;omega) _))
theorem refPdo_any (t X Y x y:Int) (w:World) (h0:-9223372036854775808≤x) (h1:x≤9223372036854775807) (k0:-9223372036854775808≤y) (k1:y≤9223372036854775807) :
  Calls Try.prog 49 #[.agg #[.int .i64 t,.int .i64 X,.int .i64 Y],.agg #[.int .i64 x,.int .i64 y]] w fun e w'=>e=.returned (.agg #[.int .i64 (pdo t X Y x y).1,.int .i64 (pdo t X Y x y).2])∧Below w.heap.size w w':=by
 obtain ⟨i,hi⟩:=fin8 t
 have e:=mat_does i x y h0 h1 k0 k1
 refine refPdo_core t X Y x y (mx (i.val:Int)).a (mx (i.val:Int)).b (mx (i.val:Int)).c (mx (i.val:Int)).d (doT (i.val:Int) x y).1 (doT (i.val:Int) x y).2 _ _ w ?_ ?_ ?_ ?_
 ·unfold pdo add64;rw [hi]
 ·unfold pdo add64;rw [hi]
 ·intro w;have:=refTurnOf_any t w;rwa [hi] at this
 ·intro w;have:=refDo_any (mx (i.val:Int)) x y w;rwa [e] at this
theorem refPbox_core (t X Y x0 y0 x1 y1 p0 p1 q0 q1 m0 m1 m2 m3:Int) (w:World)
  (KP:∀ w,Calls Try.prog 49 #[.agg #[.int .i64 t,.int .i64 X,.int .i64 Y],.agg #[.int .i64 x0,.int .i64 y0]] w fun e w'=>e=.returned (.agg #[.int .i64 p0,.int .i64 p1])∧Below w.heap.size w w')
  (KQ:∀ w,Calls Try.prog 49 #[.agg #[.int .i64 t,.int .i64 X,.int .i64 Y],.agg #[.int .i64 x1,.int .i64 y1]] w fun e w'=>e=.returned (.agg #[.int .i64 q0,.int .i64 q1])∧Below w.heap.size w w')
  (L0:∀ w,Calls Try.prog 47 #[.int .i64 p0,.int .i64 q0] w fun e w'=>e=.returned (.int .i64 m0)∧Below w.heap.size w w')
  (L1:∀ w,Calls Try.prog 47 #[.int .i64 p1,.int .i64 q1] w fun e w'=>e=.returned (.int .i64 m1)∧Below w.heap.size w w')
  (G0:∀ w,Calls Try.prog 46 #[.int .i64 p0,.int .i64 q0] w fun e w'=>e=.returned (.int .i64 m2)∧Below w.heap.size w w')
  (G1:∀ w,Calls Try.prog 46 #[.int .i64 p1,.int .i64 q1] w fun e w'=>e=.returned (.int .i64 m3)∧Below w.heap.size w w') :
  Calls Try.prog 24 #[.agg #[.int .i64 t,.int .i64 X,.int .i64 Y],.agg #[.int .i64 x0,.int .i64 y0,.int .i64 x1,.int .i64 y1]] w fun e w'=>e=.returned (.agg #[.int .i64 m0,.int .i64 m1,.int .i64 m2,.int .i64 m3])∧Below w.heap.size w w':=by
 have HP:=Lib.hid KP;have HQ:=Lib.hid KQ;have HL0:=Lib.hid L0;have HL1:=Lib.hid L1;have HG0:=Lib.hid G0;have HG1:=Lib.hid G1
 clear KP KQ L0 L1 G0 G1
 go_enter Try.func24,Try.ntmps24
 go_wp2_with fail
 refine (HP.out _).mono ?_
 rintro e w1 ⟨rfl,hb⟩
 have A:=(((Bx.new w 35 [.int .i64 t,.int .i64 X,.int .i64 Y]).alloc (.cells #[.int .i64 x0,.int .i64 y0,.int .i64 x1,.int .i64 y1] 40)).alloc (.cells #[.int .i64 0,.int .i64 0,.int .i64 0,.int .i64 0] 40)).up hb
 have C:=((Bx.new (w.alloc (.cells #[.int .i64 t,.int .i64 X,.int .i64 Y] 35)) 40 [.int .i64 x0,.int .i64 y0,.int .i64 x1,.int .i64 y1]).alloc (.cells #[.int .i64 0,.int .i64 0,.int .i64 0,.int .i64 0] 40)).up hb
 have R:=(Bx.new ((w.alloc (.cells #[.int .i64 t,.int .i64 X,.int .i64 Y] 35)).alloc (.cells #[.int .i64 x0,.int .i64 y0,.int .i64 x1,.int .i64 y1] 40)) 40 [.int .i64 0,.int .i64 0,.int .i64 0,.int .i64 0]).up hb
 simp only [World.size_alloc] at C R
 have B1:=Lib.hid (up_trans (up_alloc (up_alloc (up_alloc (Below.refl _ w) _) _) _) hb)
 clear hb
 have A':=A.alloc (.cells #[.int .i64 p0,.int .i64 p1] 23)
 have C':=C.alloc (.cells #[.int .i64 p0,.int .i64 p1] 23)
 have R':=R.alloc (.cells #[.int .i64 p0,.int .i64 p1] 23)
 have P':=Bx.new w1 23 [.int .i64 p0,.int .i64 p1]
 have a0:=A'.cell 0 rfl;have a1:=A'.cell 1 rfl;have a2:=A'.cell 2 rfl
 have c2:=C'.cell 2 rfl;have c3:=C'.cell 3 rfl
 clear A C R A' C'
 go_wp2_with fail
 refine (HQ.out _).mono ?_
 rintro e w2 ⟨rfl,hb⟩
 have P2:=(P'.up hb).alloc (.cells #[.int .i64 q0,.int .i64 q1] 23)
 have R2:=(R'.up hb).alloc (.cells #[.int .i64 q0,.int .i64 q1] 23)
 have Q2:=Bx.new w2 23 [.int .i64 q0,.int .i64 q1]
 have B3:=up_alloc (up_trans (up_alloc B1.out _) hb) (.cells #[.int .i64 q0,.int .i64 q1] 23)
 clear hb R' P' a0 a1 a2 c2 c3
 go_wp2_with fail
 generalize w2.alloc (.cells #[.int .i64 q0,.int .i64 q1] 23)=w3 at *
 have HB:=Lib.hid B3;clear B3
 have d0:=fun u:Later w3=>u.cell (P2.cell 0 rfl);have d1:=fun u:Later w3=>u.cell (P2.cell 1 rfl)
 have f0:=fun u:Later w3=>u.cell (Q2.cell 0 rfl);have f1:=fun u:Later w3=>u.cell (Q2.cell 1 rfl)
 clear P2 Q2
 refine later_start (w:=w3) ?_
 intro u
 refine wp_region_later_tail 21 (by kernel_rfl) (by kernel_rfl) ?_
 simp only [List.take_succ_cons,List.take_zero,List.drop_succ_cons,List.drop_zero]
 repeat (go_big_quiet_step (first
  | (go_at_call 47;first | (with_reducible exact Later.call (HL0.out _)) | (with_reducible exact Later.call (HL1.out _)))
  | (go_at_call 46;first | (with_reducible exact Later.call (HG0.out _)) | (with_reducible exact Later.call (HG1.out _)))))
 refine wpQuiet_nil ?_
 rintro _ ⟨u2,rfl⟩
 clear d0 d1 f0 f1
 have R3:=R2.up u2.up
 have B:=up_trans HB.out u2.up
 have r0:=R3.cell 0 rfl;have r1:=R3.cell 1 rfl;have r2:=R3.cell 2 rfl;have r3:=R3.cell 3 rfl;have rf:=R3.free
 clear R2 R3
 generalize u2.now=w4 at *
 go_wp2
 refine bodyPost_ret (v:=.agg #[.int .i64 m0,.int .i64 m1,.int .i64 m2,.int .i64 m3]) (by simp [results,Try.results24,go_sem,r0,r1,r2,r3]) rfl ⟨rfl,?_⟩
 repeat (first | (with_reducible exact B) | (with_reducible apply up_alloc) | (with_reducible refine up_set ?_ (by simp only;omega) _))
theorem refPbox_any (t X Y x0 y0 x1 y1:Int) (w:World) (h0:(Lit.int .i64 x0).wf=true) (h1:(Lit.int .i64 y0).wf=true) (h2:(Lit.int .i64 x1).wf=true) (h3:(Lit.int .i64 y1).wf=true) :
  Calls Try.prog 24 #[.agg #[.int .i64 t,.int .i64 X,.int .i64 Y],.agg #[.int .i64 x0,.int .i64 y0,.int .i64 x1,.int .i64 y1]] w fun e w'=>e=.returned (.agg #[.int .i64 (min (pdo t X Y x0 y0).1 (pdo t X Y x1 y1).1),.int .i64 (min (pdo t X Y x0 y0).2 (pdo t X Y x1 y1).2),.int .i64 (max (pdo t X Y x0 y0).1 (pdo t X Y x1 y1).1),.int .i64 (max (pdo t X Y x0 y0).2 (pdo t X Y x1 y1).2)])∧Below w.heap.size w w' :=
 refPbox_core t X Y x0 y0 x1 y1 _ _ _ _ _ _ _ _ w
  (fun w=>refPdo_any t X Y x0 y0 w (bounds_i64 h0).1 (bounds_i64 h0).2 (bounds_i64 h1).1 (bounds_i64 h1).2) (fun w=>refPdo_any t X Y x1 y1 w (bounds_i64 h2).1 (bounds_i64 h2).2 (bounds_i64 h3).1 (bounds_i64 h3).2)
  (fun w=>low_b _ _ w) (fun w=>low_b _ _ w) (fun w=>high_b _ _ w) (fun w=>high_b _ _ w)
theorem refPthen_core (t X Y t' X' Y' k x y:Int) (A B M:TMx) (w:World)
  (KD:∀ w,Calls Try.prog 49 #[.agg #[.int .i64 t',.int .i64 X',.int .i64 Y'],.agg #[.int .i64 X,.int .i64 Y]] w fun e w'=>e=.returned (.agg #[.int .i64 x,.int .i64 y])∧Below w.heap.size w w')
  (OA:∀ w,Calls Try.prog 71 #[.int .i64 t] w fun e w'=>e=.returned (.agg #[.int .i64 A.a,.int .i64 A.b,.int .i64 A.c,.int .i64 A.d])∧Below w.heap.size w w')
  (OB:∀ w,Calls Try.prog 71 #[.int .i64 t'] w fun e w'=>e=.returned (.agg #[.int .i64 B.a,.int .i64 B.b,.int .i64 B.c,.int .i64 B.d])∧Below w.heap.size w w')
  (MT:∀ w,Calls Try.prog 70 #[.agg #[.int .i64 A.a,.int .i64 A.b,.int .i64 A.c,.int .i64 A.d],.agg #[.int .i64 B.a,.int .i64 B.b,.int .i64 B.c,.int .i64 B.d]] w fun e w'=>e=.returned (.agg #[.int .i64 M.a,.int .i64 M.b,.int .i64 M.c,.int .i64 M.d])∧Below w.heap.size w w')
  (MR:∀ w,Calls Try.prog 69 #[.agg #[.int .i64 M.a,.int .i64 M.b,.int .i64 M.c,.int .i64 M.d]] w fun e w'=>e=.returned (.int .i64 k)∧Below w.heap.size w w') :
  Calls Try.prog 41 #[.agg #[.int .i64 t,.int .i64 X,.int .i64 Y],.agg #[.int .i64 t',.int .i64 X',.int .i64 Y']] w fun e w'=>e=.returned (.agg #[.int .i64 k,.int .i64 x,.int .i64 y])∧Below w.heap.size w w':=by
 have HD:=Lib.hid KD;have HOA:=Lib.hid OA;have HOB:=Lib.hid OB;have HT:=Lib.hid MT;have HR:=Lib.hid MR
 clear KD OA OB MT MR
 go_enter Try.func41,Try.ntmps41
 go_wp2_with fail
 refine (HD.out _).mono ?_
 rintro e w1 ⟨rfl,hb⟩
 have AA:=(((Bx.new w 35 [.int .i64 t,.int .i64 X,.int .i64 Y]).alloc (.cells #[.int .i64 t',.int .i64 X',.int .i64 Y'] 35)).alloc (.cells #[.int .i64 0,.int .i64 0,.int .i64 0] 35)).up hb
 have CC:=((Bx.new (w.alloc (.cells #[.int .i64 t,.int .i64 X,.int .i64 Y] 35)) 35 [.int .i64 t',.int .i64 X',.int .i64 Y']).alloc (.cells #[.int .i64 0,.int .i64 0,.int .i64 0] 35)).up hb
 have R:=(Bx.new ((w.alloc (.cells #[.int .i64 t,.int .i64 X,.int .i64 Y] 35)).alloc (.cells #[.int .i64 t',.int .i64 X',.int .i64 Y'] 35)) 35 [.int .i64 0,.int .i64 0,.int .i64 0]).up hb
 simp only [World.size_alloc] at CC R
 have B3:=up_alloc (up_trans (up_alloc (up_alloc (up_alloc (Below.refl _ w) _) _) _) hb) (.cells #[.int .i64 x,.int .i64 y] 23)
 clear hb
 have A2:=AA.alloc (.cells #[.int .i64 x,.int .i64 y] 23);have C2:=CC.alloc (.cells #[.int .i64 x,.int .i64 y] 23);have R2:=R.alloc (.cells #[.int .i64 x,.int .i64 y] 23)
 have P2:=Bx.new w1 23 [.int .i64 x,.int .i64 y]
 clear AA CC R
 go_wp2_with fail
 generalize w1.alloc (.cells #[.int .i64 x,.int .i64 y] 23)=w3 at *
 have HB:=Lib.hid B3;clear B3
 have a0:=fun u:Later w3=>u.cell (A2.cell 0 rfl);have c0:=fun u:Later w3=>u.cell (C2.cell 0 rfl)
 have d0:=fun u:Later w3=>u.cell (P2.cell 0 rfl);have d1:=fun u:Later w3=>u.cell (P2.cell 1 rfl)
 clear P2 A2 C2
 refine later_start (w:=w3) ?_
 intro u
 refine wp_region_later_tail 13 (by kernel_rfl) (by kernel_rfl) ?_
 simp only [List.take_succ_cons,List.take_zero,List.drop_succ_cons,List.drop_zero]
 repeat (go_big_quiet_step (first
  | (go_at_call 71;first | (with_reducible exact Later.call (HOA.out _)) | (with_reducible exact Later.call (HOB.out _)))
  | (go_at_call 70;with_reducible exact Later.call (HT.out _))
  | (go_at_call 69;with_reducible exact Later.call (HR.out _))))
 refine wpQuiet_nil ?_
 rintro _ ⟨u2,rfl⟩
 clear a0 c0 d0 d1
 have R3:=R2.up u2.up
 have B9:=up_trans HB.out u2.up
 have r0:=R3.cell 0 rfl;have r1:=R3.cell 1 rfl;have r2:=R3.cell 2 rfl;have rf:=R3.free
 clear R2 R3
 generalize u2.now=w4 at *
 go_wp2
 refine bodyPost_ret (v:=.agg #[.int .i64 k,.int .i64 x,.int .i64 y]) (by simp [results,Try.results41,go_sem,r0,r1,r2]) rfl ⟨rfl,?_⟩
 repeat (first | (with_reducible exact B9) | (with_reducible apply up_alloc) | (with_reducible refine up_set ?_ (by simp only;omega) _))
theorem refTurn_then (i j:Fin 8) (w:World) :
  Calls Try.prog 69 #[.agg #[.int .i64 (mthen (mx (i.val:Int)) (mx (j.val:Int))).a,.int .i64 (mthen (mx (i.val:Int)) (mx (j.val:Int))).b,.int .i64 (mthen (mx (i.val:Int)) (mx (j.val:Int))).c,.int .i64 (mthen (mx (i.val:Int)) (mx (j.val:Int))).d]] w fun e w'=>e=.returned (.int .i64 (thenT (i.val:Int) (j.val:Int)))∧Below w.heap.size w w':=by
 obtain ⟨r0,r7⟩:=then_in i j
 have e:(((thenT (i.val:Int) (j.val:Int)).toNat:Nat):Int)=thenT (i.val:Int) (j.val:Int):=by omega
 have:=refTurn_yes (thenT (i.val:Int) (j.val:Int)).toNat (by omega) w
 rw [mat_then]
 rwa [e] at this
theorem refPthen_any (t X Y t' X' Y':Int) (w:World) (h0:-9223372036854775808≤X) (h1:X≤9223372036854775807) (k0:-9223372036854775808≤Y) (k1:Y≤9223372036854775807) :
  Calls Try.prog 41 #[.agg #[.int .i64 t,.int .i64 X,.int .i64 Y],.agg #[.int .i64 t',.int .i64 X',.int .i64 Y']] w fun e w'=>e=.returned (.agg #[.int .i64 (thenT t t'),.int .i64 (pdo t' X' Y' X Y).1,.int .i64 (pdo t' X' Y' X Y).2])∧Below w.heap.size w w':=by
 obtain ⟨i,hi⟩:=fin8 t
 obtain ⟨j,hj⟩:=fin8 t'
 rw [show thenT t t'=thenT (i.val:Int) (j.val:Int) by rw [then_mod,hi,hj]]
 refine refPthen_core t X Y t' X' Y' _ _ _ (mx (i.val:Int)) (mx (j.val:Int)) (mthen (mx (i.val:Int)) (mx (j.val:Int))) w (fun w=>refPdo_any t' X' Y' X Y w h0 h1 k0 k1) ?_ ?_ (fun w=>refThen_any _ _ w) (fun w=>refTurn_then i j w)
 ·intro w;have:=refTurnOf_any t w;rwa [hi] at this
 ·intro w;have:=refTurnOf_any t' w;rwa [hj] at this
def NumC (cs:List Value) (n:Nat→Int):Prop:=∀ k,k<28→cs[cellJ k]?=some (.int .i64 (n k))
theorem JobA.numC {w:World} {cs:List Value} {j:Jb} (h:JobA w cs j):NumC cs j.n:=fun k hk=>h.num hk
theorem refSize_core (cs:List Value) (s a f t h d p1 p2 q1 q2:Int) (w:World) (c10:cs[10]?=some (.int .i64 s)) (c4:cs[4]?=some (.int .i64 a)) (c9:cs[9]?=some (.int .i64 f)) (c8:cs[8]?=some (.int .i64 t)) (c5:cs[5]?=some (.int .i64 h)) (c7:cs[7]?=some (.int .i64 d))
  (e1:IntKind.i64.wrap (s+a)=p1) (e2:IntKind.i64.wrap (p1+f)=p2) (e3:IntKind.i64.wrap (t+h)=q1) (e4:IntKind.i64.wrap (q1+d)=q2) :
  Calls Try.prog 68 #[.agg cs.toArray] w fun e w'=>e=.returned (.tuple #[.int .i64 p2,.int .i64 q2])∧Below w.heap.size w w':=by
 have HX:=Bx.new w 29 cs
 have HB:=Lib.hid (up_alloc (Below.refl w.heap.size w) (.cells cs.toArray 29))
 have b10:=HX.cell 10 c10;have b4:=HX.cell 4 c4;have b9:=HX.cell 9 c9;have b8:=HX.cell 8 c8;have b5:=HX.cell 5 c5;have b7:=HX.cell 7 c7
 clear HX c10 c4 c9 c8 c5 c7
 generalize cs.toArray=ca at *
 go_enter Try.func68,Try.ntmps68
 go_wp2_with fail
 obtain ⟨w1,hw1⟩:∃ w1,w.alloc (.cells ca 29)=w1:=⟨_,rfl⟩
 rw [hw1] at b10 b4 b9 b8 b5 b7 HB ⊢
 clear hw1
 have j10:=fun u:Later w1=>u.cell b10;have j4:=fun u:Later w1=>u.cell b4;have j9:=fun u:Later w1=>u.cell b9
 have j8:=fun u:Later w1=>u.cell b8;have j5:=fun u:Later w1=>u.cell b5;have j7:=fun u:Later w1=>u.cell b7
 clear b10 b4 b9 b8 b5 b7
 refine later_start (w:=w1) ?_
 intro u
 refine wp_region_later (by kernel_rfl) (by kernel_rfl) ?_
 repeat (go_big_quiet_step (fail))
 refine wpQuiet_nil ?_
 rintro _ ⟨u2,rfl⟩
 have BB:=Lib.hid (up_trans HB.out u2.up)
 clear j10 j4 j9 j8 j5 j7
 go_wp2
 go_ret2
 exact ⟨rfl,BB.out⟩
theorem sizW_eq (n:Nat→Int):IntKind.i64.wrap (IntKind.i64.wrap (n 9+n 3)+n 8)=sizW n:=w64_addL _ _
theorem sizH_eq (n:Nat→Int):IntKind.i64.wrap (IntKind.i64.wrap (n 7+n 4)+n 6)=sizH n:=w64_addL _ _
theorem refSize_any (cs:List Value) (n:Nat→Int) (w:World) (h:NumC cs n) :
  Calls Try.prog 68 #[.agg cs.toArray] w fun e w'=>e=.returned (.tuple #[.int .i64 (sizW n),.int .i64 (sizH n)])∧Below w.heap.size w w' :=
 refSize_core cs _ _ _ _ _ _ _ _ _ _ w (h 9 (by decide)) (h 3 (by decide)) (h 8 (by decide)) (h 7 (by decide)) (h 4 (by decide)) (h 6 (by decide)) rfl (sizW_eq n) rfl (sizH_eq n)
theorem refHalf20_any (x:Int) (w:World):Calls Try.prog 45 #[.int .i64 x] w fun e w'=>e=.returned (.int .i64 (x / 2))∧Below w.heap.size w w':=by
 go_enter Try.func45,Try.ntmps45
 go_wp2
 go_ret
 exact ⟨rfl,Below.refl _ _⟩
theorem refHalf22_any (x:Int) (w:World):Calls Try.prog 40 #[.int .i64 x] w fun e w'=>e=.returned (.int .i64 (x / 2))∧Below w.heap.size w w':=by
 go_enter Try.func40,Try.ntmps40
 go_wp2
 go_ret
 exact ⟨rfl,Below.refl _ _⟩
end Go.Proofs.Ytabinmabggnhbaa
