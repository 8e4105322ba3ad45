/- Part 10 of the texts that the proofs of this seat share: OrderJob, ScRows, LfRows, JobWant, SplitFolds, SpineCode, SpineBlk, SpineNests, SchemeTell, SchemeCat. -/
import Derived.Test.YtbbjileignefbaaGreatDoorPart9
import Derived.Test.YtbbjileignefbaaGreatDoorPart3
import Derived.Deep.AppendLies
import Derived.Test.YtbbjileignefbaaGreatDoorPart1
import Derived.Test.YtbbjileignefbaaGreatDoorPart4
import Derived.Deep.RegionHeld3
import Derived.Deep.DeepCutAuto
import Derived.BigRegion
import Derived.Test.YtbbjileignefbaaGreatDoorPart2
import Derived.RangeFuncNested
import Derived.RangeFuncBound
import Derived.RangeFuncCalls
import Derived.RangeFuncLeaves
import Derived.Shelf.Abstract
import Derived.Shelf.RegionOpen
import Derived.WalkKit
import Derived.OwnWalkIn
import Derived.TacticsInMore
import Derived.LoopNIn
import Derived.LoopIn
set_option linter.unusedSimpArgs false
set_option linter.unusedVariables false
namespace Go.Proofs.YtbbjileignefbaaGreatDoor
def nestS (s:Sc):Bool:=nestM s.c (pcR s)
theorem nest_pan {s:Sc} (h:nestS s=true):(panS s).toNat%2=0:=by
 obtain ⟨h0,h1,-⟩:=nest_pair h
 unfold pcR at h0 h1
 by_cases hr:rightM s=true
 ·rw [if_pos hr,pcL_length] at h0 h1
  obtain ⟨⟨c1,c2⟩,⟨r1,r2⟩,-⟩:=right_bounds hr
  have e:panS s=s.c*s.r:=by unfold panS panM sideB;simp [c1,c2,r1,r2]
  rw [e]
  exact h1
 ·rw [if_neg hr] at h0
  exact absurd h0 (Nat.lt_irrefl _)
def mayM (j:Jb):Bool:=inB (j.n 10) 1 4&&(decide (0<(ofM j).length)&&(!decide (j.n 10=1) || nestS j.f))
def copM (j:Jb):Int:=if mayM j=true then (if j.n 10=4 then 2 else 1) else 0
def panN (l:List Sc) (i:Nat):Nat:=(panS (l.getD i zeroSc)).toNat
def atM (b c:Int) (m:Nat):Nat:=if c=1 then 0 else if b=1 then m / 2 else m
theorem atM_le (b c:Int) (m:Nat):atM b c m≤m:=by unfold atM;split;exact Nat.zero_le _;split<;>omega
def bookB (b c:Int) (l:List Sc) (k:Nat):List (Nat×Nat):=bkF (panN l) (fun i=>atM b c (leafN (panN l) i)) k
theorem bookB_length (b c:Int) (l:List Sc) (k:Nat):(bookB b c l k).length=leafN (panN l) k:=bkF_length (fun i=>atM_le b c _) k
theorem bookB_succ (b c:Int) (l:List Sc) (k:Nat):bookB b c l (k+1)=(bookB b c l k).take (atM b c (bookB b c l k).length)++ownF k (panN l k)++(bookB b c l k).drop (atM b c (bookB b c l k).length):=by
 rw [bookB_length]
 rfl
def panJ (j:Jb):Nat:=(panS j.f).toNat
def bookM (j:Jb) (c:Int):List (Nat×Nat):=if c<0∨copM j≤c then [] else if j.n 10=3 then pilesF (ofM j).length (panJ j) else bookB (j.n 10) c (ofM j) (ofM j).length
def posM (j:Jb) (c:Int) (i a:Nat):Nat:=if j.n 10=3 then a*(ofM j).length+i else psF (panN (ofM j)) (fun i=>atM (j.n 10) c (leafN (panN (ofM j)) i)) (ofM j).length i a
theorem may_facts {j:Jb} (h:mayM j=true):(1≤j.n 10∧j.n 10≤4)∧partB j=true∧(j.n 10=1→nestS j.f=true):=by
 unfold mayM inB at h
 simp only [Bool.and_eq_true,decide_eq_true_eq,Bool.or_eq_true,Bool.not_eq_true',decide_eq_false_iff_not] at h
 obtain ⟨hb,h0,hn⟩:=h
 refine ⟨hb,?_,fun e=>hn.resolve_left fun hne=>hne e⟩
 unfold ofM at h0
 split at h0
 next h=>exact h
 next=>exact absurd h0 (Nat.lt_irrefl _)
theorem foldl_in (p:Int):∀ (l:List (List UInt8)) (b:Sc),l.foldl (lessM p) b=b∨∃ nm∈l,l.foldl (lessM p) b=(findM nm).getD zeroSc
 | [],b=>.inl rfl
 | x :: l,b=>by
  rw [List.foldl_cons]
  rcases foldl_in p l (lessM p b x) with h | ⟨nm,hm,h⟩
  ·rw [h]
   unfold lessM
   split
   ·exact .inr ⟨x,List.mem_cons_self ..,rfl⟩
   ·exact .inl rfl
  ·exact .inr ⟨nm,List.mem_cons_of_mem _ hm,h⟩
theorem last_in (j:Jb):lastS j=j.f∨∃ nm∈j.ls,lastS j=(findM nm).getD zeroSc:=foldl_in _ _ _
theorem last_nests {j:Jb} (h:partB j=true) (hb:j.n 10=1) (hn:nestS j.f=true):nestS (lastS j)=true:=by
 rcases last_in j with e | ⟨nm,hm,e⟩
 ·rw [e];exact hn
 ·rw [e]
  have hl:=part_last h
  unfold lastM endsM at hl
  simp only [Bool.and_eq_true] at hl
  have:=List.all_eq_true.1 hl.2.2 nm hm
  unfold endB at this
  simp only [Bool.and_eq_true,hb,decide_true,Bool.not_true,Bool.false_or] at this
  exact this.2.2
theorem last_stack {j:Jb} (h:partB j=true) (hb:j.n 10=3∨j.n 10=4):lastS j=j.f:=by
 rcases last_in j with e | ⟨nm,hm,e⟩
 ·exact e
 ·have hl:=part_last h
  unfold lastM endsM mostM at hl
  simp only [Bool.and_eq_true,decide_eq_true_eq] at hl
  rw [if_pos hb] at hl
  have:=List.eq_nil_of_length_eq_zero (Nat.le_zero.1 hl.2.1)
  rw [this] at hm
  cases hm
theorem panN_at {j:Jb} (h:partB j=true) {k:Nat} (hk:k<(ofM j).length):panN (ofM j) k=if k+1=(ofM j).length then (panS (lastS j)).toNat else panJ j:=by
 have hc:=of_length j
 have:=of_at h k (by omega)
 unfold panN panJ
 rw [List.getD_eq_getElem?_getD,this,Option.getD_some]
 by_cases e:k+1=(ofM j).length
 ·rw [if_pos e,if_pos (by omega)]
 ·rw [if_neg e,if_neg (by omega)]
theorem panN_out {l:List Sc} {k:Nat} (hk:l.length≤k):panN l k=0:=by
 unfold panN
 rw [List.getD_eq_getElem?_getD,List.getElem?_eq_none hk]
 rfl
theorem panN_small (j:Jb) (k:Nat):panN (ofM j) k≤64:=by
 by_cases hk:k<(ofM j).length
 ·have:=of_scheme j _ (List.getElem_mem hk)
  unfold panN
  rw [List.getD_eq_getElem?_getD,List.getElem?_eq_getElem hk,Option.getD_some]
  omega
 ·rw [panN_out (by omega)]
  omega
theorem panN_even {j:Jb} (h:mayM j=true) (hb:j.n 10=1) (k:Nat):panN (ofM j) k%2=0:=by
 obtain ⟨-,hp,hn⟩:=may_facts h
 by_cases hk:k<(ofM j).length
 ·rw [panN_at hp hk]
  split
  ·exact nest_pan (last_nests hp hb (hn hb))
  ·exact nest_pan (hn hb)
 ·rw [panN_out (by omega)]
theorem panN_same {j:Jb} (h:partB j=true) (hb:j.n 10=3∨j.n 10=4) {k:Nat} (hk:k<(ofM j).length):panN (ofM j) k=panJ j:=by
 rw [panN_at h hk,last_stack h hb]
 split<;>rfl
theorem leafN_ahead {j:Jb} (h:partB j=true):∀ k,k<(ofM j).length→leafN (panN (ofM j)) k=k*panJ j
 | 0,_=>by simp [leafN]
 | k+1,hk=>by
  rw [leafN,leafN_ahead h k (by omega),panN_at h (by omega),if_neg (by omega),Nat.add_mul,Nat.one_mul]
theorem leafN_last {j:Jb} (h:partB j=true):∃ K,(ofM j).length=K+1∧leafN (panN (ofM j)) (K+1)=K*panJ j+(panS (lastS j)).toNat:=by
 obtain ⟨K,hK⟩:∃ K,(ofM j).length=K+1:=⟨(ofM j).length-1,by
  have hc:=of_length j
  obtain ⟨p1,p2,p3,-⟩:=part_facts h
  have:=others_bounds p3.1 p3.2 p1.1
  unfold cntS at hc
  rw [if_pos h] at hc
  omega⟩
 refine ⟨K,hK,?_⟩
 rw [leafN,leafN_ahead h K (by omega),panN_at h (by omega),if_pos hK.symm]
theorem leafN_all {j:Jb} (h:partB j=true):(leafN (panN (ofM j)) (ofM j).length:Int)=leavesS j:=by
 obtain ⟨K,hK,e⟩:=leafN_last h
 have hc:=of_length j
 obtain ⟨p1,p2,p3,p4,p5,p6,p7,p8⟩:=part_facts h
 rw [hK,e]
 unfold cntS at hc
 unfold leavesS panJ
 rw [if_pos h] at hc ⊢
 rw [show othersM (j.n 0) (panS j.f)=(K:Int) by omega,Int.natCast_add,Int.natCast_mul,Int.toNat_of_nonneg (by omega),Int.toNat_of_nonneg (by omega)]
theorem leafN_small (j:Jb):∀ k,leafN (panN (ofM j)) k≤k*64
 | 0=>by simp [leafN]
 | k+1=>by
  have:=leafN_small j k
  have:=panN_small j k
  rw [leafN]
  omega
theorem bookM_small (j:Jb) (c:Int):(bookM j c).length≤3200000:=by
 have hs:=of_small j
 unfold bookM
 split
 ·exact Nat.zero_le _
 ·split
  next h1 h2 =>
   have hm:mayM j=true:=by
    rw [←Bool.not_eq_false]
    intro e
    refine h1 ?_
    unfold copM
    rw [e]
    simp
    omega
   obtain ⟨-,hp,-⟩:=may_facts hm
   obtain ⟨p1,-⟩:=part_facts hp
   rw [pilesF_length]
   have:panJ j*(ofM j).length≤64*50000:=Nat.mul_le_mul (by unfold panJ;omega) hs
   omega
  next =>
   rw [bookB_length]
   have:=leafN_small j (ofM j).length
   omega
theorem bookM_none {j:Jb} {c:Int} (h:c<0∨copM j≤c):bookM j c=[]:=by unfold bookM;rw [if_pos h]
theorem cop_may {j:Jb} {c:Int} (h:¬ (c<0∨copM j≤c)):mayM j=true∧(c=0∨c=1∧j.n 10=4):=by
 unfold copM at h
 by_cases hm:mayM j=true
 ·rw [if_pos hm] at h
  refine ⟨hm,?_⟩
  split at h<;>omega
 ·rw [if_neg hm] at h
  omega
theorem bookM_length {j:Jb} {c:Int} (h:¬ (c<0∨copM j≤c)):(bookM j c).length=leafN (panN (ofM j)) (ofM j).length:=by
 obtain ⟨hm,-⟩:=cop_may h
 obtain ⟨-,hp,-⟩:=may_facts hm
 unfold bookM
 rw [if_neg h]
 split
 next h3 =>
  obtain ⟨K,hK,e⟩:=leafN_last hp
  rw [pilesF_length,hK,e,last_stack hp (.inl h3),Nat.mul_add,Nat.mul_one,Nat.mul_comm K]
  rfl
 next=>exact bookB_length ..
theorem book_at {j:Jb} {c:Int} (h:¬ (c<0∨copM j≤c)) {i a:Nat} (hi:i<(ofM j).length) (ha:a<panN (ofM j) i):posM j c i a<(bookM j c).length∧(bookM j c)[posM j c i a]?=some (i,a):=by
 obtain ⟨hm,-⟩:=cop_may h
 obtain ⟨-,hp,-⟩:=may_facts hm
 rw [bookM_length h]
 unfold bookM posM
 rw [if_neg h]
 split
 next h3 =>
  rw [panN_same hp (.inl h3) hi] at ha
  have e:=pilesF_at (panJ j) i a hi ha
  refine ⟨?_,e⟩
  have:=(List.getElem?_eq_some_iff.1 e).1
  rw [pilesF_length] at this
  obtain ⟨K,hK,e2⟩:=leafN_last hp
  have e4:panJ j*(ofM j).length=leafN (panN (ofM j)) (ofM j).length:=by
   rw [hK,e2,last_stack hp (.inl h3),Nat.mul_add,Nat.mul_one,Nat.mul_comm (panJ j) K]
   rfl
  rw [←e4]
  exact this
 next=>exact bkF_at (fun i=>atM_le _ _ _) _ i a hi ha
theorem book_each {j:Jb} {c:Int} {x:Nat} (hx:x<(bookM j c).length):∃ i a,i<(ofM j).length∧a<panN (ofM j) i∧posM j c i a=x∧(bookM j c)[x]?=some (i,a):=by
 have h:¬ (c<0∨copM j≤c):=fun h=>by
  rw [bookM_none h] at hx
  exact absurd hx (Nat.not_lt_zero _)
 obtain ⟨hm,-⟩:=cop_may h
 obtain ⟨-,hp,-⟩:=may_facts hm
 have key:∃ i a,i<(ofM j).length∧a<panN (ofM j) i∧posM j c i a=x:=by
  rw [bookM_length h] at hx
  unfold posM
  by_cases h3:j.n 10=3
  ·simp only [if_pos h3]
   have hx2:x<panJ j*(ofM j).length:=by
    obtain ⟨K,hK,e2⟩:=leafN_last hp
    rw [hK] at hx ⊢
    rw [e2,last_stack hp (.inl h3)] at hx
    rw [Nat.mul_add,Nat.mul_one,Nat.mul_comm (panJ j) K]
    exact hx
   obtain ⟨h1,h2,h4⟩:=pilesF_each hx2
   exact ⟨_,_,h1,by rw [panN_same hp (.inl h3) h1];exact h2,h4⟩
  ·simp only [if_neg h3]
   exact bkF_each (fun i=>atM_le _ _ _) _ x hx
 obtain ⟨i,a,hi,ha,e⟩:=key
 exact ⟨i,a,hi,ha,e,by rw [←e];exact (book_at h hi ha).2⟩
theorem pos_stack {j:Jb} {c:Int} {i a:Nat} (hb:j.n 10=3):posM j c i a=a*(ofM j).length+i:=by unfold posM;rw [if_pos hb]
theorem pos_behind {j:Jb} {i a:Nat} (h:partB j=true) (h1:j.n 10≠1) (h3:j.n 10≠3) (hi:i<(ofM j).length) (ha:a<panN (ofM j) i):posM j 0 i a=i*panJ j+a:=by
 unfold posM
 rw [if_neg h3]
 have e:(fun i=>atM (j.n 10) 0 (leafN (panN (ofM j)) i))=leafN (panN (ofM j)):=by
  funext k
  unfold atM
  rw [if_neg (by decide),if_neg h1]
 rw [e,psF_end _ i a hi ha,leafN_ahead h i hi]
theorem pos_ahead {j:Jb} {i a:Nat} (h:partB j=true) (h4:j.n 10=4) (hi:i<(ofM j).length) (ha:a<panN (ofM j) i):posM j 1 i a=((ofM j).length-1-i)*panJ j+a:=by
 unfold posM
 rw [if_neg (by omega)]
 have e:(fun i=>atM (j.n 10) 1 (leafN (panN (ofM j)) i))=fun _=>0:=by
  funext k
  unfold atM
  rw [if_pos rfl]
 have:=psF_ahead (ofM j).length i a hi ha
 rw [e]
 obtain ⟨K,hK,e2⟩:=leafN_last h
 rw [hK] at this hi ⊢
 rw [e2,last_stack h (.inr h4),leafN,leafN_ahead h i (by omega),panN_same h (.inr h4) (by omega)] at this
 have e3:K*panJ j=(K-i)*panJ j+i*panJ j:=by rw [←Nat.add_mul,Nat.sub_add_cancel (by omega)]
 rw [show K+1-1-i=K-i by omega]
 unfold panJ at *
 omega
theorem pos_into {j:Jb} {i a:Nat} (h:mayM j=true) (h1:j.n 10=1) (hi:i<(ofM j).length) (ha:a<panN (ofM j) i) :
  (a<panN (ofM j) i / 2→posM j 0 i a=i*panJ j / 2+a)∧(panN (ofM j) i / 2≤a→posM j 0 i a+i*panJ j / 2+panN (ofM j) i=leafN (panN (ofM j)) (ofM j).length+a):=by
 unfold posM
 rw [if_neg (by omega)]
 have e:(fun i=>atM (j.n 10) 0 (leafN (panN (ofM j)) i))=fun i=>leafN (panN (ofM j)) i / 2:=by
  funext k
  unfold atM
  rw [if_neg (by decide),if_pos h1]
 rw [e,←leafN_ahead (may_facts h).2.1 i hi]
 exact psF_into (panN_even h h1) _ i a hi ha
end Go.Proofs.YtbbjileignefbaaGreatDoor
namespace Go.Proofs.YtbbjileignefbaaGreatDoor
open Go.RowKit
theorem Tryz.infoScheme:(Tryz.prog.info? 26).map (fun i=>(i.zero,i.size,i.bytes))=some (some (.agg #[.int .i64 0,.int .i64 0,.slice none 0 0]),3,40):=by kernel_rfl
structure En where
 s:Sc
 a:Option Addr
 c:Nat
def En.cells (e:En):List Value:=[.int .i64 e.s.c,.int .i64 e.s.r,.slice e.a e.s.l.length e.c]
def ens (l:List En):List Value:=l.flatMap En.cells
theorem ens_cons (e:En) (l:List En):ens (e :: l)=e.cells++ens l:=rfl
theorem ens_append (l m:List En):ens (l++m)=ens l++ens m:=by simp [ens]
theorem ens_at {l:List En} {j:Nat} {e:En} (h:l[j]?=some e) (i:Nat) (hi:i<3):(ens l)[j*3+i]?=e.cells[i]?:=by
 induction l generalizing j with
 | nil=>simp at h
 | cons q l ih =>
  rw [ens_cons]
  cases j with
  | zero =>
   simp only [List.getElem?_cons_zero,Option.some.injEq] at h
   subst h
   rw [List.getElem?_append_left (by simp [En.cells];omega)]
   simp
  | succ j =>
   rw [List.getElem?_cons_succ] at h
   rw [List.getElem?_append_right (by simp [En.cells];omega),←ih h]
   congr 1
   simp [En.cells]
   omega
def InN (own:Option Nat) (w:World) (a:Option Addr) (l:List Sp):Prop:=l=[]∨∃ b off,a=some ⟨b,off,none⟩∧own≠some b∧InS w b off l
theorem InN.inL {own:Option Nat} {w:World} {a:Option Addr} {l:List Sp} (h:InN own w a l):InL w a l:=h.imp id fun ⟨b,off,e,_,h⟩=>⟨b,off,e,h⟩
theorem InN.up {own:Option Nat} {w w':World} {a:Option Addr} {l:List Sp} (h:InN own w a l) (hb:Below w.heap.size w w'):InN own w' a l:=h.imp id fun ⟨b,off,e,h0,h⟩=>⟨b,off,e,h0,h.up hb⟩
theorem InS.far {w w':World} {b off:Nat} {l:List Sp} (h:InS w b off l) (hk:∀ p:Addr,p.block=b→∀ v,w.cell? p=some v→w'.cell? p=some v):InS w' b off l:=fun j p hp=>by
 obtain ⟨c0,c1,c2⟩:=h j p hp
 exact ⟨hk _ rfl _ c0,hk _ rfl _ c1,hk _ rfl _ c2⟩
theorem InS.lt {w:World} {b off:Nat} {l:List Sp} (h:InS w b off l) (hl:l≠[]):b<w.heap.size:=by
 cases l with
 | nil=>exact absurd rfl hl
 | cons p l=>exact World.block_lt_of_cell? w _ (h 0 p rfl).1
theorem InN.grown {own own':Option Nat} {u w':World} {o:Obj} {a:Option Addr} {l:List Sp} (h:InN own u a l) (hg:(u.alloc o).grownBy w' own) (hat:own'=own∨∃ g,own'=some g∧(own=some g∨u.heap.size≤g)):InN own' w' a l:=by
 by_cases hl:l=[]
 ·exact .inl hl
 rcases h with h | ⟨b,off,e,h0,h⟩
 ·exact absurd h hl
 ·have hb:=h.lt hl
  refine .inr ⟨b,off,e,?_,h.far fun p hp v hv=>?_⟩
  ·rcases hat with rfl | ⟨g,rfl,h1 | h1⟩
   ·exact h0
   ·intro e
    injection e with e
    subst e
    exact h0 h1
   ·intro e
    injection e with e
    omega
  ·have hv2:(u.alloc o).cell? p=some v:=Lib.cell?_alloc_some _ hv
   exact (World.grownBy.cell_far hg p (by rw [World.size_alloc,hp];omega) (by rw [hp];exact fun e=>h0 e.symm)).trans hv2
def OwnL (w:World) (base:Nat) (v:Value) (L:List Sc):Prop :=
 ∃ E:List En,E.map En.s=L∧w.ownsRow base 26 3 v L.length (ens E)∧∀ e∈E,InN v.ownBlock w e.a e.s.l
theorem OwnL.nil (w:World) (base:Nat):OwnL w base (.slice none 0 0) []:=⟨[],rfl,World.ownsRow_nil _ _ _ _,fun e h=>by cases h⟩
theorem OwnL.up {w w':World} {base:Nat} {v:Value} {L:List Sc} (h:OwnL w base v L) (hb:Below w.heap.size w w'):OwnL w' base v L:=by
 obtain ⟨E,h1,h2,h3⟩:=h
 exact ⟨E,h1,own_kept h2 fun k _ hk=>hb.block k hk,fun e he=>(h3 e he).up hb⟩
theorem OwnL.block {w:World} {base:Nat} {v:Value} {L:List Sc} (h:OwnL w base v L):∀ b,v.ownBlock=some b→base≤b∧b<w.heap.size:=by
 obtain ⟨E,h1,h2,h3⟩:=h
 exact fun b hb=>World.ownsRow.lt h2 b hb
def ScsA (w:World) (a:Option Addr) (L:List Sc):Prop :=
 L=[]∨∃ g,a=some ⟨g,0,none⟩∧∀ k s,L[k]?=some s→∃ a' c',w.cell? ⟨g,k*3,none⟩=some (.int .i64 s.c)∧w.cell? ⟨g,k*3+1,none⟩=some (.int .i64 s.r)∧w.cell? ⟨g,k*3+2,none⟩=some (.slice a' s.l.length c')∧InL w a' s.l
theorem ScsA.up {w w':World} {a:Option Addr} {L:List Sc} (h:ScsA w a L) (hb:Below w.heap.size w w'):ScsA w' a L :=
 h.imp id fun ⟨g,e,h⟩=>⟨g,e,fun k s hs=>by
  obtain ⟨a',c',h0,h1,h2,h3⟩:=h k s hs
  exact ⟨a',c',bl_cell hb h0,bl_cell hb h1,bl_cell hb h2,h3.up hb⟩⟩
theorem OwnL.tells {w:World} {base:Nat} {v:Value} {L:List Sc} (h:OwnL w base v L):∃ a cap,v=.slice a L.length cap∧ScsA w a L:=by
 obtain ⟨E,h1,h2,h3⟩:=h
 have h2':=h2
 rcases h2.2 with ⟨rfl,h0⟩ | ⟨g,cap,cur,rfl,hb,hg,hcap,hmax,hsz,htk⟩
 ·exact ⟨none,0,by rw [h0],.inl (List.eq_nil_of_length_eq_zero h0)⟩
 ·refine ⟨some ⟨g,0,none⟩,cap,rfl,.inr ⟨g,rfl,fun k s hs=>?_⟩⟩
  rw [←h1,List.getElem?_map,Option.map_eq_some_iff] at hs
  obtain ⟨e,he,rfl⟩:=hs
  have hc:∀ j u,(ens E)[j]?=some u→w.cell? ⟨g,j,none⟩=some u:=fun j u hu=>by
   have:=h2'.cells (g:=g) rfl j u hu
   rwa [show (⟨g,0,none⟩:Addr).add j=⟨g,j,none⟩ by unfold Addr.add;split<;>simp_all] at this
  exact ⟨e.a,e.c,hc _ _ (ens_at he 0 (by omega)),hc _ _ (ens_at he 1 (by omega)),hc _ _ (ens_at he 2 (by omega)),(h3 e (List.mem_of_getElem? he)).inL⟩
theorem OwnL.grew {u w':World} {base:Nat} {v:Value} {L:List Sc} {o:Obj} {E:List En} (h1:E.map En.s=L) (h3:∀ e∈E,InN v.ownBlock u e.a e.s.l) {s:Sc} {a:Option Addr} {c:Nat} (hi:InN v.ownBlock u a s.l) {g cap:Nat}
  (hn:w'.ownsRow base 26 3 (.slice (some ⟨g,0,none⟩) (L.length+1) cap) (L.length+1) (ens E++En.cells ⟨s,a,c⟩)) (hg:(u.alloc o).grownBy w' v.ownBlock) (hat:v.ownBlock=some g∨g=(u.alloc o).heap.size):OwnL w' base (.slice (some ⟨g,0,none⟩) (L.length+1) cap) (L++[s]):=by
 have hat2:(Value.slice (some ⟨g,0,none⟩) (L.length+1) cap).ownBlock=v.ownBlock∨∃ g',(Value.slice (some ⟨g,0,none⟩) (L.length+1) cap).ownBlock=some g'∧(v.ownBlock=some g'∨u.heap.size≤g'):=.inr ⟨g,rfl,hat.imp id fun e=>by rw [World.size_alloc] at e;omega⟩
 refine ⟨E++[⟨s,a,c⟩],by rw [List.map_append,h1];rfl,?_,fun e he=>?_⟩
 ·rw [List.length_append,ens_append]
  simpa [ens] using hn
 ·rcases List.mem_append.1 he with he | he
  ·exact (h3 e he).grown hg hat2
  ·simp only [List.mem_singleton] at he
   subst he
   exact hi.grown hg hat2
theorem ens_cells (x y z:Value) (w:World) (t:TypeId):∀ j u,[x,y,z][j]?=some u→(w.alloc (.cells #[x,y,z] t)).cell? ((⟨w.heap.size,0,none⟩:Addr).add j)=some u:=cells_three w x y z t
theorem wpList_append_sc {u:World} {ops:Array Oper} {rest:List Oper} {o:Oper} {a:Act} {Q:Exit→Act→World→Prop} (hgd:o.guard=none) (s x:Operand)
  (ho:o.op=.call { callee:=.builtin .append,args:=#[s,x],argTypes:=#[43,43] })
  (base:Nat) (v:Value) (L:List Sc) (hs:a.eval s=v) (hown:OwnL u base v L) (hbase:base≤u.heap.size)
  (sc:Sc) (p:Option Addr) (c m:Nat) (hm:sc.l.length=m) (hi:InN v.ownBlock u p sc.l) (H:Nat) (hH:u.heap.size=H) (hx:a.eval x=.slice (some ⟨H,0,none⟩) 1 1) (hl:L.length≤1000000)
  (h:∀ g cap w',OwnL w' base (.slice (some ⟨g,0,none⟩) (L.length+1) cap) (L++[sc])→Below base u w'→wpList Tryz.prog ops Q rest (a.put o.dst (.slice (some ⟨g,0,none⟩) (L.length+1) cap)) w'):wpList Tryz.prog ops Q (o :: rest) a (u.alloc (.cells #[.int .i64 sc.c,.int .i64 sc.r,.slice p m c] 26)):=by
 subst hH
 subst hm
 obtain ⟨i0,hi0,hz0,hz1,hz2⟩:=info_parts Tryz.infoScheme
 obtain ⟨E,h1,h2,h3⟩:=hown
 refine wpList_append_lies _ hgd s x 43 ho base 26 i0 _ 3 40 Tryz.underlying43 hi0 hz0 hz1 hz2 rfl (by omega) v L.length _ hs (World.ownsRow.alloc h2 _) ⟨u.heap.size,0,none⟩ 1 1 (En.cells ⟨sc,p,c⟩) hx rfl ?_ ?_ (by omega) (by unfold maxLen;omega) (by omega) (by simp;omega) _ rfl ?_
 ·exact ens_cells _ _ _ u _
 ·intro y hy;simp [En.cells] at hy;rcases hy with rfl | rfl | rfl<;>rfl
 intro g cap w1 hown1 hgrow hat hlt
 refine h g cap w1 (OwnL.grew h1 h3 hi hown1 hgrow hat) (Below.grown ((Below.refl _ _).alloc hbase _) hgrow (by simp;omega) (fun k hk=>(World.ownsRow.lt h2 k hk).1))
theorem Tryz.infoLf:(Tryz.prog.info? 48).map (fun i=>(i.zero,i.size,i.bytes))=some (some (.agg #[.int .i64 0,.int .i64 0]),2,16):=by kernel_rfl
def lfC (p:Nat×Nat):List Value:=[.int .i64 (p.1:Int),.int .i64 (p.2:Int)]
def lfs (l:List (Nat×Nat)):List Value:=l.flatMap lfC
theorem lfs_cons (p:Nat×Nat) (l:List (Nat×Nat)):lfs (p :: l)=lfC p++lfs l:=rfl
theorem lfs_append (l m:List (Nat×Nat)):lfs (l++m)=lfs l++lfs m:=by simp [lfs]
theorem lfs_length (l:List (Nat×Nat)):(lfs l).length=l.length*2:=by
 induction l with
 | nil=>rfl
 | cons p l ih=>rw [lfs_cons,List.length_append,ih,List.length_cons];simp [lfC];omega
theorem lfs_one {l:List (Nat×Nat)}:∀ u∈lfs l,u.oneCell'=true:=by
 intro u hu
 obtain ⟨p,_,hp⟩:=List.mem_flatMap.1 hu
 simp [lfC] at hp
 rcases hp with rfl | rfl<;>rfl
theorem lfs_at {l:List (Nat×Nat)} {j:Nat} {p:Nat×Nat} (h:l[j]?=some p) (i:Nat) (hi:i<2):(lfs l)[j*2+i]?=(lfC p)[i]?:=by
 induction l generalizing j with
 | nil=>simp at h
 | cons q l ih =>
  rw [lfs_cons]
  cases j with
  | zero =>
   simp only [List.getElem?_cons_zero,Option.some.injEq] at h
   subst h
   rw [List.getElem?_append_left (by simp [lfC];omega)]
   simp
  | succ j =>
   rw [List.getElem?_cons_succ] at h
   rw [List.getElem?_append_right (by simp [lfC];omega),←ih h]
   congr 1
   simp [lfC]
   omega
def LfA (w:World) (a:Option Addr) (l:List (Nat×Nat)):Prop:=l=[]∨∃ b off,a=some ⟨b,off,none⟩∧∀ k u,(lfs l)[k]?=some u→w.cell? ⟨b,off+k,none⟩=some u
theorem LfA.up {w w':World} {a:Option Addr} {l:List (Nat×Nat)} (h:LfA w a l) (hb:Below w.heap.size w w'):LfA w' a l:=h.imp id fun ⟨b,off,e,h⟩=>⟨b,off,e,fun k u hu=>bl_cell hb (h k u hu)⟩
theorem LfA.cells {w:World} {a:Option Addr} {l:List (Nat×Nat)} (h:LfA w a l) {j:Nat} {p:Nat×Nat} (hp:l[j]?=some p):∃ b off,a=some ⟨b,off,none⟩∧w.cell? ⟨b,off+j*2,none⟩=some (.int .i64 (p.1:Int))∧w.cell? ⟨b,off+j*2+1,none⟩=some (.int .i64 (p.2:Int)):=by
 rcases h with rfl | ⟨b,off,e,h⟩
 ·simp at hp
 ·exact ⟨b,off,e,h (j*2) _ (lfs_at hp 0 (by omega)),by rw [Nat.add_assoc];exact h (j*2+1) _ (lfs_at hp 1 (by omega))⟩
theorem LfA.take {w:World} {a:Option Addr} {l:List (Nat×Nat)} (h:LfA w a l) (k:Nat):LfA w a (l.take k):=by
 rcases h with rfl | ⟨b,off,e,h⟩
 ·exact .inl (by simp)
 ·refine .inr ⟨b,off,e,fun j u hu=>h j u ?_⟩
  have e2:lfs l=lfs (l.take k)++lfs (l.drop k):=by rw [←lfs_append,List.take_append_drop]
  rw [e2,List.getElem?_append_left (List.getElem?_eq_some_iff.1 hu).1]
  exact hu
theorem LfA.drop {w:World} {b off:Nat} {l:List (Nat×Nat)} (h:LfA w (some ⟨b,off,none⟩) l) (k:Nat) (hk:k≤l.length):LfA w (some ⟨b,off+k*2,none⟩) (l.drop k):=by
 rcases h with rfl | ⟨b',off',e,h⟩
 ·exact .inl (by simp)
 ·cases e
  refine .inr ⟨b,off+k*2,rfl,fun j u hu=>?_⟩
  have e2:lfs l=lfs (l.take k)++lfs (l.drop k):=by rw [←lfs_append,List.take_append_drop]
  have e3:(lfs (l.take k)).length=k*2:=by rw [lfs_length,List.length_take];omega
  rw [Nat.add_assoc]
  refine h _ u ?_
  rw [e2,List.getElem?_append_right (by omega),e3,Nat.add_sub_cancel_left]
  exact hu
def OwnF (w:World) (base:Nat) (v:Value) (l:List (Nat×Nat)):Prop:=w.ownsRow base 48 2 v l.length (lfs l)
theorem OwnF.nil (w:World) (base:Nat):OwnF w base (.slice none 0 0) []:=World.ownsRow_nil _ _ _ _
theorem OwnF.up {w w':World} {base:Nat} {v:Value} {l:List (Nat×Nat)} (h:OwnF w base v l) (hb:Below w.heap.size w w'):OwnF w' base v l:=own_kept h fun k _ hk=>hb.block k hk
theorem OwnF.tells {w:World} {base:Nat} {v:Value} {l:List (Nat×Nat)} (h:OwnF w base v l):∃ a cap,v=.slice a l.length cap∧LfA w a l∧l.length≤cap∧cap≤maxLen∧(∀ p,a=some p→p=⟨p.block,0,none⟩)∧(a=none→cap=0):=by
 have h':=h
 rcases h.2 with ⟨rfl,h0⟩ | ⟨g,cap,cur,rfl,hb,hg,hcap,hmax,hsz,htk⟩
 ·exact ⟨none,0,by rw [h0],.inl (List.eq_nil_of_length_eq_zero h0),by omega,by omega,fun p hp=>(by cases hp),fun _=>rfl⟩
 ·refine ⟨some ⟨g,0,none⟩,cap,rfl,.inr ⟨g,0,rfl,fun k u hu=>?_⟩,hcap,hmax,fun p hp=>by cases hp;rfl,fun h=>by cases h⟩
  have:=h'.cells (g:=g) rfl k u hu
  rwa [show (⟨g,0,none⟩:Addr).add k=⟨g,0+k,none⟩ by unfold Addr.add;split<;>simp_all] at this
theorem run_append_nothing {P:Program} {w:World} (t ty e:TypeId) (i:TypeInfo) (ht:P.underlying t=some (.slice e)) (hi:P.info? e=some i) (s ad:Option Addr) (n cap c:Nat) (hn:n≤cap) :
  (Builtin.append_ #[t,t] ty #[.slice s n cap,.slice ad 0 c]).run P w=.ok (.slice s n cap) w:=by
 cases s<;>cases ad<;>simp [Builtin.append_,run_underlying ht,sizeOf,typeInfo,hi,Builtin.lenOf,Builtin.firstCells,loadCells,loadCellsFrom,hn,storeCells]
theorem wpList_append_lf {u:World} {ops:Array Oper} {rest:List Oper} {o:Oper} {a:Act} {Q:Exit→Act→World→Prop} (hgd:o.guard=none) (s x:Operand)
  (ho:o.op=.call { callee:=.builtin .append,args:=#[s,x],argTypes:=#[32,32] })
  (base:Nat) (v:Value) (L:List (Nat×Nat)) (hs:a.eval s=v) (hown:OwnF u base v L) (hbase:base≤u.heap.size)
  (y z:Nat) (H:Nat) (hH:u.heap.size=H) (hx:a.eval x=.slice (some ⟨H,0,none⟩) 1 1) (hl:L.length≤10000000)
  (h:∀ g cap w',OwnF w' base (.slice (some ⟨g,0,none⟩) (L.length+1) cap) (L++[(y,z)])→Below base u w'→wpList Tryz.prog ops Q rest (a.put o.dst (.slice (some ⟨g,0,none⟩) (L.length+1) cap)) w'):wpList Tryz.prog ops Q (o :: rest) a (u.alloc (.cells #[.int .i64 (y:Int),.int .i64 (z:Int)] 48)):=by
 subst hH
 obtain ⟨i0,hi0,hz0,hz1,hz2⟩:=info_parts Tryz.infoLf
 refine wpList_append_lies _ hgd s x 32 ho base 48 i0 _ 2 16 Tryz.underlying32 hi0 hz0 hz1 hz2 rfl (by omega) v L.length _ hs (World.ownsRow.alloc hown _) ⟨u.heap.size,0,none⟩ 1 1 (lfC (y,z)) hx rfl ?_ ?_ (by omega) (by unfold maxLen;omega) (by omega) (by simp;omega) _ rfl ?_
 ·exact World.news_of_block (World.alloc_heap_new _ _)
 ·intro q hq;simp [lfC] at hq;rcases hq with rfl | rfl<;>rfl
 intro g cap w1 hown1 hgrow hat hlt
 refine h g cap w1 ?_ (Below.grown ((Below.refl _ _).alloc hbase _) hgrow (by simp;omega) (fun k hk=>(World.ownsRow.lt hown k hk).1))
 unfold OwnF
 rw [List.length_append,lfs_append]
 simpa [lfs] using hown1
theorem wpList_append_lfs {u:World} {ops:Array Oper} {rest:List Oper} {o:Oper} {a:Act} {Q:Exit→Act→World→Prop} (hgd:o.guard=none) (s x:Operand)
  (ho:o.op=.call { callee:=.builtin .append,args:=#[s,x],argTypes:=#[32,32] })
  (base:Nat) (v:Value) (L:List (Nat×Nat)) (hs:a.eval s=v) (hown:OwnF u base v L) (hbase:base≤u.heap.size)
  (ad:Option Addr) (m c:Nat) (hx:a.eval x=.slice ad m c) (l2:List (Nat×Nat)) (hm:l2.length=m) (hA:LfA u ad l2) (hl:L.length+m≤10000000)
  (h:∀ v' w',OwnF w' base v' (L++l2)→Below base u w'→wpList Tryz.prog ops Q rest (a.put o.dst v') w'):wpList Tryz.prog ops Q (o :: rest) a u:=by
 obtain ⟨i0,hi0,hz0,hz1,hz2⟩:=info_parts Tryz.infoLf
 subst hm
 by_cases h0:l2.length=0
 ·rw [h0] at hx
  have e2:=List.eq_nil_of_length_eq_zero h0
  obtain ⟨av,cv,rfl,-,hcap,-⟩:=hown.tells
  have hr:=run_append_nothing (P:=Tryz.prog) (w:=u) 32 o.type 48 i0 Tryz.underlying32 hi0 av ad L.length cv c hcap
  have hk:=h _ u (by rw [e2,List.append_nil];exact hown) (Below.refl _ _)
  refine wpList_plain hgd fun K hK=>?_
  unfold Oper.wp
  simp [execOp,ho,resolve,invoke,builtin,hs,hx,hr,Result.andThen]
  exact hK _ _ hk
 ·rcases hA with rfl | ⟨b,off,rfl,hI⟩
  ·exact absurd rfl h0
  refine wpList_append_lies _ hgd s x 32 ho base 48 i0 _ 2 16 Tryz.underlying32 hi0 hz0 hz1 hz2 rfl (by omega) v L.length _ hs hown ⟨b,off,none⟩ l2.length c (lfs l2) hx (lfs_length l2) ?_ lfs_one (by omega) (by unfold maxLen;omega) (by omega) hbase _ rfl ?_
  ·intro k q hq
   rw [Addr.add_mid]
   exact hI k q hq
  ·intro g cap w1 hown1 hgrow hat hlt
   refine h _ w1 ?_ (Below.grown (Below.refl _ _) hgrow hbase (fun k hk=>(World.ownsRow.lt hown k hk).1))
   unfold OwnF
   rw [List.length_append,lfs_append]
   exact hown1
theorem slice_lfs (a:Option Addr) (n c k:Nat) (hk:k≤n) (hn:n≤c) (hc:c≤maxLen) (w:World):(Instr.slice 32 (.slice a n c) none (some (.int .i64 (k:Int))) none).run Tryz.prog w=.ok (.slice a k c) w:=by
 have h1:k≤c:=by omega
 unfold maxLen at hc
 cases a<;>simp [go_sem,h1]<;>omega
theorem slice_lft (a:Option Addr) (n c k:Nat) (hk:k≤n) (hn:n≤c) (hc:c≤maxLen) (h0:∀ p,a=some p→p=⟨p.block,0,none⟩) (h1:a=none→c=0) :
  ∃ a',(∀ w,(Instr.slice 32 (.slice a n c) (some (.int .i64 (k:Int))) none none).run Tryz.prog w=.ok (.slice a' (n-k) (c-k)) w)∧∀ w l,LfA w a l→l.length=n→LfA w a' (l.drop k):=by
 cases a with
 | none =>
  have:=h1 rfl
  obtain rfl:k=0:=by omega
  refine ⟨none,fun w=>?_,fun w l hA hl=>by simpa using hA⟩
  simp [go_sem]
 | some p =>
  rw [h0 p rfl]
  by_cases e:c=k
  ·subst e
   refine ⟨some ⟨p.block,0,none⟩,fun w=>?_,fun w l hA hl=>.inl (List.drop_eq_nil_of_le (by omega))⟩
   simp [go_sem]
   omega
  ·refine ⟨some ⟨p.block,0+k*2,none⟩,fun w=>?_,fun w l hA hl=>hA.drop k (by omega)⟩
   simp [go_sem,e]
   omega
end Go.Proofs.YtbbjileignefbaaGreatDoor
namespace Go.Proofs.YtbbjileignefbaaGreatDoor
open Go.RowKit
section
variable {ops:Array Oper} {rest:List Oper} {o:Oper} {a:Act} {w:World} {Q:Exit→Act→World→Prop} {C:World→Prop} {K:Act→Prop}
theorem wpList_load_job_want (x:Operand) (ho:o.op=.load 29 x) (hw:Region.wanted o (yielded ops a.tmps)=true) (b:Nat) (hx:a.eval x=.pointer (some ⟨b,0,none⟩)) (cs:List Value) (hb:Bx w b cs) (hl:cs.length=33)
  (h:wpList Tryz.prog ops Q rest (a.put o.dst (.agg cs.toArray)) w):wpList Tryz.prog ops Q (o :: rest) a w:=by
 unfold wpList
 rw [if_pos hw]
 refine .inl ?_
 unfold Oper.wp execOp
 simp only [ho,hx,Instr.loadAt,Instr.sureAddr,Sem.run_bind,Sem.run_pure,Result.andThen_ok,run_loadVar_mid w b 0 29 cs _ hb.range Tryz.underlying29 rfl (by rw [hl];exact infoJob)]
 exact h
end
end Go.Proofs.YtbbjileignefbaaGreatDoor
namespace Go.Proofs.YtbbjileignefbaaGreatDoor
open Go.RowKit
theorem schRight_long (c r:Int) (a:Option Addr) (n cap:Nat) (w:World) (hn:6<n) :
  Calls Tryz.prog 75 #[.agg #[.int .i64 c,.int .i64 r,.slice a n cap]] w fun e w'=>e=.returned (.bool false)∧Below w.heap.size w w':=by
 have KP:=fun w=>schPanels_any c r a n cap w
 have KI:=fun w=>in_any (panM c r) 1 64 w
 generalize panM c r=p at *
 generalize (decide (1≤p)&&decide (p≤64))=u2 at *
 have e1:decide ((6:Int)<(n:Int))=true:=by simp;omega
 have HP:=Lib.hid KP;have HI:=Lib.hid KI
 clear KP KI hn
 cases u2
 ·clear e1
  go_enter Tryz.func75,Tryz.ntmps75
  go_wp2_with fail
  refine (HP.out _).mono ?_
  rintro e w1 ⟨rfl,hb⟩
  have B1:=Lib.hid (up_trans (up_alloc (Below.refl _ w) _) hb)
  clear hb
  go_wp2_with fail
  refine (HI.out _).mono ?_
  rintro e w2 ⟨rfl,rfl⟩
  go_wp2
  go_ret
  exact ⟨rfl,B1.out⟩
 ·go_enter Tryz.func75,Tryz.ntmps75
  go_wp2_with fail
  refine (HP.out _).mono ?_
  rintro e w1 ⟨rfl,hb⟩
  have A:=(Bx.new w 26 [.int .i64 c,.int .i64 r,.slice a n cap]).up hb
  have B1:=Lib.hid (up_trans (up_alloc (Below.refl _ w) _) hb)
  clear hb
  have a2:=A.cell 2 rfl
  go_wp2_with fail
  refine (HI.out _).mono ?_
  rintro e w2 ⟨rfl,rfl⟩
  go_wp2
  go_ret
  exact ⟨rfl,B1.out⟩
theorem schRight_all (s:Sc) (a:Option Addr) (cap:Nat) (w:World) (hc:s.c≤9223372036854775807) (hr:s.r≤9223372036854775807) (h:InL w a s.l) :
  Calls Tryz.prog 75 #[.agg #[.int .i64 s.c,.int .i64 s.r,.slice a s.l.length cap]] w fun e w'=>e=.returned (.bool (rightM s))∧Below w.heap.size w w':=by
 by_cases hl:s.l.length≤6
 ·exact schRight_any s a cap w hc hr (by omega) h
 ·have:rightM s=false:=by unfold rightM;simp [hl]
  rw [this]
  exact schRight_long s.c s.r a _ cap w (by omega)
theorem spFolds_core (cs:List Value) (b c r p:Int) (a:Option Addr) (n cap:Nat) (u v z R:Bool) (w:World) (h11:cs[11]?=some (.int .i64 b)) (h12:cs[12]?=some (.int .i64 c)) (h13:cs[13]?=some (.int .i64 r)) (h14:cs[14]?=some (.slice a n cap))
  (e1:(b==3)=u) (e2:decide (n=0)=v)
  (KP:∀ w1,Calls Tryz.prog 47 #[.agg #[.int .i64 c,.int .i64 r,.slice a n cap]] w1 fun e w'=>e=.returned (.int .i64 p)∧Below w1.heap.size w1 w')
  (KI:∀ w1,Calls Tryz.prog 36 #[.int .i64 p,.int .i64 1,.int .i64 64] w1 fun e w'=>e=.returned (.bool z)∧w1=w')
  (KR:∀ w1,Below w.heap.size w w1→Calls Tryz.prog 75 #[.agg #[.int .i64 c,.int .i64 r,.slice a n cap]] w1 fun e w'=>e=.returned (.bool R)∧Below w1.heap.size w1 w') :
  Calls Tryz.prog 58 #[.agg cs.toArray] w fun e w'=>e=.returned (.bool (if u=true then v&&z else R))∧Below w.heap.size w w':=by
 have HX:=Bx.new w 29 cs
 have HB:=Lib.hid (up_alloc (Below.refl w.heap.size w) (.cells cs.toArray 29))
 have c11:=HX.cell 11 h11;have c12:=HX.cell 12 h12;have c13:=HX.cell 13 h13;have c14:=HX.cell 14 h14
 have HP:=Lib.hid KP;have HI:=Lib.hid KI;have HR:=Lib.hid KR
 have e2':((n:Int)==0)=v:=by rw [←e2,Bool.eq_iff_iff];simp
 clear KP KI KR h11 h12 h13 h14 HX e2
 generalize cs.toArray=ca at *
 cases u
 ·clear e2'
  go_enter Tryz.func58,Tryz.ntmps58
  go_wp2_with fail
  refine (HR.out _ HB.out).mono ?_
  rintro e w1 ⟨rfl,hb⟩
  have B1:=Lib.hid (up_trans HB.out hb)
  clear hb
  go_wp2
  go_ret
  exact ⟨rfl,B1.out⟩
 cases v
 ·go_enter Tryz.func58,Tryz.ntmps58
  go_wp2
  go_ret
  exact ⟨rfl,HB.out⟩
 ·go_enter Tryz.func58,Tryz.ntmps58
  go_wp2_with fail
  refine (HP.out _).mono ?_
  rintro e w1 ⟨rfl,hb⟩
  have B1:=Lib.hid (up_trans HB.out hb)
  clear hb
  go_wp2_with fail
  refine (HI.out _).mono ?_
  rintro e w2 ⟨rfl,rfl⟩
  go_wp2
  go_ret
  exact ⟨by simp,B1.out⟩
theorem refSpFolds_core (cs:List Value) (b c r p:Int) (a:Option Addr) (n cap:Nat) (u v z R:Bool) (w:World) (h11:cs[11]?=some (.int .i64 b)) (h12:cs[12]?=some (.int .i64 c)) (h13:cs[13]?=some (.int .i64 r)) (h14:cs[14]?=some (.slice a n cap))
  (e1:(b==3)=u) (e2:decide (n=0)=v)
  (KP:∀ w1,Calls Tryz.prog 19 #[.agg #[.int .i64 c,.int .i64 r,.slice a n cap]] w1 fun e w'=>e=.returned (.int .i64 p)∧Below w1.heap.size w1 w')
  (KI:∀ w1,Calls Tryz.prog 32 #[.int .i64 p,.int .i64 1,.int .i64 64] w1 fun e w'=>e=.returned (.bool z)∧w'=w1)
  (KR:∀ w1,Below w.heap.size w w1→Calls Tryz.prog 49 #[.agg #[.int .i64 c,.int .i64 r,.slice a n cap]] w1 fun e w'=>e=.returned (.bool R)∧Below w1.heap.size w1 w') :
  Calls Tryz.prog 30 #[.agg cs.toArray] w fun e w'=>e=.returned (.bool (if u=true then v&&z else R))∧Below w.heap.size w w':=by
 have HX:=Bx.new w 29 cs
 have HB:=Lib.hid (up_alloc (Below.refl w.heap.size w) (.cells cs.toArray 29))
 have c11:=HX.cell 11 h11;have c12:=HX.cell 12 h12;have c13:=HX.cell 13 h13;have c14:=HX.cell 14 h14
 have HP:=Lib.hid KP;have HI:=Lib.hid KI;have HR:=Lib.hid KR
 have e2':((n:Int)==0)=v:=by rw [←e2,Bool.eq_iff_iff];simp
 clear KP KI KR h11 h12 h13 h14 HX e2
 generalize cs.toArray=ca at *
 cases u
 ·clear e2'
  go_enter Tryz.func30,Tryz.ntmps30
  go_wp2_with fail
  refine (HR.out _ HB.out).mono ?_
  rintro e w1 ⟨rfl,hb⟩
  have B1:=Lib.hid (up_trans HB.out hb)
  clear hb
  go_wp2
  go_ret
  exact ⟨rfl,B1.out⟩
 cases v
 ·go_enter Tryz.func30,Tryz.ntmps30
  go_wp2
  go_ret
  exact ⟨rfl,HB.out⟩
 ·go_enter Tryz.func30,Tryz.ntmps30
  go_wp2_with fail
  refine (HP.out _).mono ?_
  rintro e w1 ⟨rfl,hb⟩
  have B1:=Lib.hid (up_trans HB.out hb)
  clear hb
  go_wp2_with fail
  refine (HI.out _).mono ?_
  rintro e w2 ⟨rfl,rfl⟩
  go_wp2
  go_ret
  exact ⟨by simp,B1.out⟩
theorem JobA.cells {w:World} {cs:List Value} {j:Jb} (h:JobA w cs j):∃ a c a' c',cs[12]?=some (.int .i64 j.f.c)∧cs[13]?=some (.int .i64 j.f.r)∧cs[14]?=some (.slice a j.f.l.length c)∧cs[15]?=some (.slice a' j.ls.length c')∧InL w a j.f.l∧TxA w a' c' j.ls:=by
 obtain ⟨a,c,a',c',rfl,h1,h2⟩:=h
 exact ⟨a,c,a',c',rfl,rfl,rfl,rfl,h1,h2⟩
def WfF (j:Jb):Prop:=j.f.c≤9223372036854775807∧j.f.r≤9223372036854775807
theorem folds_if (j:Jb):foldsM j=if (j.n 10==3)=true then decide (j.f.l.length=0)&&(decide (1≤panM j.f.c j.f.r)&&decide (panM j.f.c j.f.r≤64)) else rightM j.f:=by
 unfold foldsM panS
 simp only [beq_iff_eq]
theorem spFolds_any (cs:List Value) (j:Jb) (w:World) (h:JobA w cs j) (hf:WfF j) :
  Calls Tryz.prog 58 #[.agg cs.toArray] w fun e w'=>e=.returned (.bool (foldsM j))∧Below w.heap.size w w':=by
 obtain ⟨a,c,a',c',h12,h13,h14,h15,hI,hT⟩:=h.cells
 rw [folds_if]
 exact spFolds_core cs (j.n 10) j.f.c j.f.r _ a _ c _ _ _ _ w (h.num (k:=10) (by decide)) h12 h13 h14 rfl rfl (fun w1=>schPanels_any _ _ _ _ _ w1) (fun w1=>in_any _ 1 64 w1) (fun w1 hb=>schRight_all j.f a c w1 hf.1 hf.2 (hI.up hb))
theorem refSpFolds_any (cs:List Value) (j:Jb) (w:World) (h:JobA w cs j) (hf:WfF j) (hl:j.f.l.length≤1000000) :
  Calls Tryz.prog 30 #[.agg cs.toArray] w fun e w'=>e=.returned (.bool (foldsM j))∧Below w.heap.size w w':=by
 obtain ⟨a,c,a',c',h12,h13,h14,h15,hI,hT⟩:=h.cells
 rw [folds_if]
 exact refSpFolds_core cs (j.n 10) j.f.c j.f.r _ a _ c _ _ _ _ w (h.num (k:=10) (by decide)) h12 h13 h14 rfl rfl (fun w1=>refPanels_any _ _ _ _ _ w1) (fun w1=>refIn_any _ 1 64 w1) (fun w1 hb=>refFine_any j.f a c w1 hf.1 hf.2 hl (hI.up hb))
theorem spMost_core (cs:List Value) (b:Int) (u v:Bool) (w:World) (h11:cs[11]?=some (.int .i64 b)) (e1:(b==3)=u) (e2:(b==4)=v) :
  Calls Tryz.prog 59 #[.agg cs.toArray] w fun e w'=>e=.returned (.int .i64 (if (u || v)=true then 0 else 4))∧Below w.heap.size w w':=by
 have HX:=Bx.new w 29 cs
 have HB:=Lib.hid (up_alloc (Below.refl w.heap.size w) (.cells cs.toArray 29))
 have c11:=HX.cell 11 h11
 clear h11 HX
 generalize cs.toArray=ca at *
 cases u<;>cases v
 all_goals
  go_enter Tryz.func59,Tryz.ntmps59
  go_wp2
  go_ret
  exact ⟨rfl,HB.out⟩
theorem spMost_any (cs:List Value) (b:Int) (w:World) (h11:cs[11]?=some (.int .i64 b)) :
  Calls Tryz.prog 59 #[.agg cs.toArray] w fun e w'=>e=.returned (.int .i64 (mostM b))∧Below w.heap.size w w':=by
 have:=spMost_core cs b _ _ w h11 rfl rfl
 have e:(if ((b==3) || (b==4))=true then (0:Int) else 4)=(mostM b:Nat):=by
  unfold mostM
  simp only [Bool.or_eq_true,beq_iff_eq]
  split<;>rfl
 rw [e] at this
 exact this
theorem spTakes_any (c r:Int) (a:Option Addr) (n cap:Nat) (w:World) :
  Calls Tryz.prog 45 #[.agg #[.int .i64 c,.int .i64 r,.slice a n cap]] w fun e w'=>e=.returned (.int .i64 (2*panM c r))∧Below w.heap.size w w':=by
 have KP:=fun w=>schPanels_any c r a n cap w
 have hp:0≤panM c r∧panM c r≤4096:=pan_ge ⟨c,r,[]⟩
 generalize panM c r=p at *
 obtain ⟨p0,p1⟩:=hp
 have HP:=Lib.hid KP
 clear KP
 go_enter Tryz.func45,Tryz.ntmps45
 go_wp2_with fail
 refine (HP.out _).mono ?_
 rintro e w1 ⟨rfl,hb⟩
 have B1:=Lib.hid (up_trans (up_alloc (Below.refl _ w) _) hb)
 clear hb
 go_wp2
 go_ret
 exact ⟨rfl,B1.out⟩
theorem blkHas_any (c k:Int) (a1 a2:Option Addr) (n1 c1 n c2:Nat) (w:World) (hn:n≤64) :
  Calls Tryz.prog 99 #[.agg #[.int .i64 c,.slice a1 n1 c1,.slice a2 n c2],.int .i64 k] w fun e w'=>e=.returned (.bool (decide (0≤k)&&decide (k≤(n:Int)-1)))∧Below w.heap.size w w':=by
 have H:=Lib.hid fun w=>in_any k 0 ((n:Int)-1) w
 go_enter Tryz.func99,Tryz.ntmps99
 go_wp2_with fail
 refine (H.out _).mono ?_
 rintro e w1 ⟨rfl,rfl⟩
 go_wp2
 go_ret
 exact ⟨rfl,up_alloc (Below.refl _ _) _⟩
set_option maxHeartbeats 1000000 in
set_option maxRecDepth 100000 in
theorem blkEdge_core (c X Y lo hi lf:Int) (fx fy u1 u2 u3:Bool) (g1 g2 m c2 a b j:Nat) (w:World) (hm:m≤64) (hc:1≤c∧c≤64) (ha:a<m) (hb:b<m) (hj:j<m) (hlo:min X Y=lo) (hhi:max X Y=hi) (hjl:lo=(j:Int)) (hh:0≤hi∧hi≤64)
  (x0:w.cell? ⟨g2,a,none⟩=some (.int .i64 X)) (y0:w.cell? ⟨g2,b,none⟩=some (.int .i64 Y))
  (p0:w.cell? ⟨g1,j*3,none⟩=some (.int .i64 lf)) (p1:w.cell? ⟨g1,j*3+1,none⟩=some (.bool fx)) (p2:w.cell? ⟨g1,j*3+2,none⟩=some (.bool fy))
  (e1:(hi==(j:Int)+1)=u1) (e2:(hi.tmod c != 0)=u2) (e3:(hi==(j:Int)+c)=u3)
  (V:Int) (hV:V=if (u1&&u2)=true then (if fx=true then 1 else 2) else if u3=true then (if fy=true then 3 else 4) else 0) :
  Calls Tryz.prog 87 #[.agg #[.int .i64 c,.slice (some ⟨g1,0,none⟩) m m,.slice (some ⟨g2,0,none⟩) m c2],.int .i64 (a:Int),.int .i64 (b:Int)] w fun e w'=>e=.returned (.int .i64 V)∧Below w.heap.size w w':=by
 subst hjl
 have K1:=fun w=>blkHas_any c (a:Int) (some ⟨g1,0,none⟩) (some ⟨g2,0,none⟩) m m m c2 w hm
 have K2:=fun w=>blkHas_any c (b:Int) (some ⟨g1,0,none⟩) (some ⟨g2,0,none⟩) m m m c2 w hm
 rw [decide_eq_true (by omega:(0:Int)≤(a:Int)),decide_eq_true (by omega:(a:Int)≤(m:Int)-1)] at K1
 rw [decide_eq_true (by omega:(0:Int)≤(b:Int)),decide_eq_true (by omega:(b:Int)≤(m:Int)-1)] at K2
 simp only [Bool.and_self] at K1 K2
 have e2':(hi%c != 0)=u2:=by rw [←Int.tmod_eq_emod_of_nonneg hh.1];exact e2
 have H1:=Lib.hid K1;have H2:=Lib.hid K2
 have B0:=Lib.hid (up_alloc (Below.refl _ w) (.cells #[.int .i64 c,.slice (some ⟨g1,0,none⟩) m m,.slice (some ⟨g2,0,none⟩) m c2] 117))
 have HC:=Lib.hid (And.intro x0 (And.intro y0 (And.intro p0 (And.intro p1 p2))))
 clear K1 K2 x0 y0 p0 p1 p2
 have z0:(0:Int)≤(a:Int):=by omega
 have z1:(a:Int)<(m:Int):=by omega
 have z2:(0:Int)≤(b:Int):=by omega
 have z3:(b:Int)<(m:Int):=by omega
 have z4:(0:Int)≤(j:Int):=by omega
 have z5:(j:Int)<(m:Int):=by omega
 have hc0:c≠0:=by omega
 have HE:=Lib.hid (And.intro e1 (And.intro e2 (And.intro e2' e3)))
 clear e1 e2 e2' e3
 go_enter Tryz.func87,Tryz.ntmps87
 go_wp2_with fail
 refine (H1.out _).mono ?_
 rintro e w1 ⟨rfl,hb1⟩
 have A1:=(Bx.new w 117 [.int .i64 c,.slice (some ⟨g1,0,none⟩) m m,.slice (some ⟨g2,0,none⟩) m c2]).up hb1
 have B1:=Lib.hid (up_trans B0.out hb1)
 have a0:=A1.cell 0 rfl;have a1:=A1.cell 1 rfl;have a2:=A1.cell 2 rfl
 clear hb1
 go_wp2_with fail
 refine (H2.out _).mono ?_
 rintro e w2 ⟨rfl,hb2⟩
 have A2:=A1.up hb2
 have B2:=Lib.hid (up_trans B1.out hb2)
 clear a0 a1 a2 hb2 A1 B1
 have a0:=A2.cell 0 rfl;have a1:=A2.cell 1 rfl;have a2:=A2.cell 2 rfl
 obtain ⟨x0,y0,p0,p1,p2⟩:=HC.out
 have x0:=bl_cell B2.out x0;have y0:=bl_cell B2.out y0
 have p0:=bl_cell B2.out p0;have p1:=bl_cell B2.out p1;have p2:=bl_cell B2.out p2
 go_wp2_with fail
 refine later_start (w:=w2) ?_
 intro v
 have j0:=fun v:Later w2=>v.cell a0
 have j1:=fun v:Later w2=>v.cell a1
 have j2:=fun v:Later w2=>v.cell a2
 have k0:=fun v:Later w2=>v.cell x0
 have k1:=fun v:Later w2=>v.cell y0
 have q0:=fun v:Later w2=>v.cell p0
 have q1:=fun v:Later w2=>v.cell p1
 have q2:=fun v:Later w2=>v.cell p2
 clear a0 a1 a2 x0 y0 p0 p1 p2
 refine wp_region_later (by kernel_rfl) (by kernel_rfl) ?_
 repeat (go_big_quiet_step (fail))
 refine wpQuiet_nil ?_
 rintro _ ⟨v2,rfl⟩
 have a0:=j0 v2;have a1:=j1 v2;have a2:=j2 v2
 have p0:=q0 v2;have p1:=q1 v2;have p2:=q2 v2
 have B3:=Lib.hid (up_trans B2.out v2.up)
 have b0:=((A2.up v2.up).alloc (.cells #[.int .i64 lf,.bool fx,.bool fy] 132)).cell 0 rfl
 clear j0 j1 j2 k0 k1 q0 q1 q2 B2
 generalize v2.now=w3 at *
 clear v v2
 obtain ⟨e1,e2,e2',e3⟩:=HE.out
 have hfin:∀ o,Below w.heap.size w (w3.alloc o):=fun o=>up_alloc B3.out o
 have HF:=Lib.hid hfin
 clear hfin
 cases u1
 ·cases u3
  ·clear e2
   obtain rfl:V=0:=hV
   go_wp2
   go_ret
   exact ⟨rfl,HF.out _⟩
  ·cases fy
   ·obtain rfl:V=4:=hV
    go_wp2
    go_ret
    exact ⟨rfl,HF.out _⟩
   ·obtain rfl:V=3:=hV
    go_wp2
    go_ret
    exact ⟨rfl,HF.out _⟩
 ·cases u2
  ·cases u3
   ·obtain rfl:V=0:=hV
    go_wp2
    go_ret
    exact ⟨rfl,HF.out _⟩
   ·cases fy
    ·obtain rfl:V=4:=hV
     go_wp2
     go_ret
     exact ⟨rfl,HF.out _⟩
    ·obtain rfl:V=3:=hV
     go_wp2
     go_ret
     exact ⟨rfl,HF.out _⟩
  ·cases fx
   ·obtain rfl:V=2:=hV
    go_wp2
    go_ret
    exact ⟨rfl,HF.out _⟩
   ·obtain rfl:V=1:=hV
    go_wp2
    go_ret
    exact ⟨rfl,HF.out _⟩
theorem blkEdge_out (c a b:Int) (a1 a2:Option Addr) (n1 c1 n c2:Nat) (w:World) (hn:n≤64) (h:¬ ((0≤a∧a<(n:Int))∧0≤b∧b<(n:Int))) :
  Calls Tryz.prog 87 #[.agg #[.int .i64 c,.slice a1 n1 c1,.slice a2 n c2],.int .i64 a,.int .i64 b] w fun e w'=>e=.returned (.int .i64 0)∧Below w.heap.size w w':=by
 have K1:=fun w=>blkHas_any c a a1 a2 n1 c1 n c2 w hn
 have K2:=fun w=>blkHas_any c b a1 a2 n1 c1 n c2 w hn
 obtain ⟨u1,hu1⟩:∃ u,(decide (0≤a)&&decide (a≤(n:Int)-1))=u:=⟨_,rfl⟩
 obtain ⟨u2,hu2⟩:∃ u,(decide (0≤b)&&decide (b≤(n:Int)-1))=u:=⟨_,rfl⟩
 have hu:u1=false∨u2=false:=by
  rw [←hu1,←hu2]
  simp only [Bool.and_eq_false_iff,decide_eq_false_iff_not]
  omega
 rw [hu1] at K1
 rw [hu2] at K2
 have H1:=Lib.hid K1;have H2:=Lib.hid K2
 have B0:=Lib.hid (up_alloc (Below.refl _ w) (.cells #[.int .i64 c,.slice a1 n1 c1,.slice a2 n c2] 117))
 clear K1 K2 h hu1 hu2
 cases u1
 ·clear hu
  go_enter Tryz.func87,Tryz.ntmps87
  go_wp2_with fail
  refine (H1.out _).mono ?_
  rintro e w1 ⟨rfl,hb1⟩
  have B1:=Lib.hid (up_trans B0.out hb1)
  clear hb1
  go_wp2
  go_ret
  exact ⟨rfl,B1.out⟩
 ·obtain rfl:u2=false:=by simpa using hu
  clear hu
  go_enter Tryz.func87,Tryz.ntmps87
  go_wp2_with fail
  refine (H1.out _).mono ?_
  rintro e w1 ⟨rfl,hb1⟩
  have A1:=(Bx.new w 117 [.int .i64 c,.slice a1 n1 c1,.slice a2 n c2]).up hb1
  have B1:=Lib.hid (up_trans B0.out hb1)
  have x0:=A1.cell 0 rfl;have x1:=A1.cell 1 rfl;have x2:=A1.cell 2 rfl
  clear hb1
  go_wp2_with fail
  refine (H2.out _).mono ?_
  rintro e w2 ⟨rfl,hb2⟩
  have B2:=Lib.hid (up_trans B1.out hb2)
  clear x0 x1 x2 hb2 A1 B1
  go_wp2
  go_ret
  exact ⟨rfl,B2.out⟩
def BlkV (w:World) (s:Sc) (v:Value):Prop:=∃ b b' c',v=.agg #[.int .i64 s.c,.slice b (pcR s).length (pcR s).length,.slice b' (pcR s).length c']∧GotP w b (panR s)∧GotN w b' (numR s)
theorem BlkV.up {w w':World} {s:Sc} {v:Value} (h:BlkV w s v) (hb:Below w.heap.size w w'):BlkV w' s v:=by
 obtain ⟨b,b',c',e,h1,h2⟩:=h
 exact ⟨b,b',c',e,h1.up hb,h2.up hb⟩
theorem edgN_bool (c x y:Int) (fx fy:Bool):edgN c x y fx fy=if ((y==x+1)&&(y.tmod c != 0))=true then (if fx=true then 1 else 2) else if (y==x+c)=true then (if fy=true then 3 else 4) else 0:=by
 unfold edgN
 simp only [Bool.and_eq_true,beq_iff_eq,bne_iff_ne]
theorem blkEdge_any (s:Sc) (v:Value) (a b:Int) (w:World) (hv:BlkV w s v) :
  Calls Tryz.prog 87 #[v,.int .i64 a,.int .i64 b] w fun e w'=>e=.returned (.int .i64 (edgM s.c (pcR s) a b))∧Below w.heap.size w w':=by
 obtain ⟨b1,b2,c',rfl,hP,hN⟩:=hv
 have hm:(pcR s).length≤64:=by rw [←pcR_length];exact (panR_length s).1
 by_cases h:(0≤a∧a<(pcR s).length)∧0≤b∧b<(pcR s).length
 ·obtain ⟨⟨ha0,ha1⟩,hb0,hb1⟩:=h
  obtain ⟨i,rfl⟩:=Int.eq_ofNat_of_zero_le ha0
  obtain ⟨k,rfl⟩:=Int.eq_ofNat_of_zero_le hb0
  have hi:i<(pcR s).length:=by omega
  have hk:k<(pcR s).length:=by omega
  obtain ⟨p,hp⟩:∃ p,(pcR s)[i]?=some p:=⟨_,List.getElem?_eq_getElem hi⟩
  obtain ⟨q,hq⟩:∃ q,(pcR s)[k]?=some q:=⟨_,List.getElem?_eq_getElem hk⟩
  obtain ⟨jp,hjp,ep,pp⟩:=pcR_at s i p hp
  obtain ⟨jq,hjq,eq,pq⟩:=pcR_at s k q hq
  have hc:=pcR_c s (by omega)
  rw [edgM_in hp hq]
  obtain ⟨g1,rfl,hr1⟩:=hP.resolve_left (by intro e;rw [e] at pp;simp at pp)
  have np:(numR s)[i]?=some (jp:Int):=by rw [numR_eq,List.getElem?_map,hp,Option.map_some,ep]
  have nq:(numR s)[k]?=some (jq:Int):=by rw [numR_eq,List.getElem?_map,hq,Option.map_some,eq]
  obtain ⟨g2,rfl,hr2⟩:=hN.resolve_left (by intro e;rw [e] at np;simp at np)
  have x0:=hr2 _ _ np
  have y0:=hr2 _ _ nq
  unfold edgP
  rw [ep,eq]
  by_cases hle:(jp:Int)≤(jq:Int)
  ·rw [if_pos hle]
   obtain ⟨p0,p1,p2⟩:=hr1.cells pp
   exact blkEdge_core s.c jp jq jp jq _ p.fx p.fy _ _ _ g1 g2 _ c' i k jp w hm hc hi hk hjp (Int.min_eq_left hle) (Int.max_eq_right hle) rfl (by omega) x0 y0 p0 p1 p2 rfl rfl rfl _ (edgN_bool ..)
  ·rw [if_neg hle]
   obtain ⟨p0,p1,p2⟩:=hr1.cells pq
   exact blkEdge_core s.c jp jq jq jp _ q.fx q.fy _ _ _ g1 g2 _ c' i k jq w hm hc hi hk hjq (Int.min_eq_right (by omega)) (Int.max_eq_left (by omega)) rfl (by omega) x0 y0 p0 p1 p2 rfl rfl rfl _ (edgN_bool ..)
 ·rw [edgM_out h]
  exact blkEdge_out _ _ _ _ _ _ _ _ _ _ hm h
def NewAt (base:Nat) (b:Option Addr):Prop:=∀ g,b=some ⟨g,0,none⟩→base≤g
theorem GotP.store {w:World} {b:Option Addr} {P:List Pn} (h:GotP w b P) {base:Nat} (hn:NewAt base b) {p:Addr} (hp:p.block<base) (x:Value):GotP (w.setCell p x) b P:=by
 rcases h with h | ⟨g,e,h⟩
 ·exact .inl h
 ·have:=hn g e
  exact .inr ⟨g,e,h.same (Below.heap_setCell _ _ _ _ (by omega))⟩
theorem GotN.store {w:World} {b:Option Addr} {N:List Int} (h:GotN w b N) {base:Nat} (hn:NewAt base b) {p:Addr} (hp:p.block<base) (x:Value):GotN (w.setCell p x) b N:=by
 rcases h with h | ⟨g,e,h⟩
 ·exact .inl h
 ·have:=hn g e
  exact .inr ⟨g,e,fun i y hy=>(World.cell?_setCell_far _ _ _ _ (by simp only;omega)).trans (h i y hy)⟩
theorem unfOf_new (s:Sc) (a:Option Addr) (cap:Nat) (w:World) (hc:s.c≤9223372036854775807) (hr:s.r≤9223372036854775807) (hl:s.l.length≤1000000) (hI:InL w a s.l) :
  Calls Tryz.prog 97 #[.agg #[.int .i64 s.c,.int .i64 s.r,.slice a s.l.length cap]] w fun e w'=>∃ b,e=.returned (.slice b (panR s).length (panR s).length)∧GotP w' b (panR s)∧NewAt w.heap.size b∧Below w.heap.size w w':=by
 cases h:rightM s
 ·have e:panR s=[]:=by unfold panR;rw [if_neg (by simp [h])]
  rw [e]
  exact (unfOf_no s a cap w hc hr hl hI h).mono fun _ _ ⟨h1,h2⟩=>⟨none,h1,.inl rfl,fun _ e=>by simp at e,h2⟩
 ·have e:panR s=panL s:=by unfold panR;rw [if_pos h]
  rw [e,panL_length,←pcL_length]
  refine (unfOf_yes s a cap w hI h).mono fun _ _ ⟨g,h1,h2,h3,h4⟩=>⟨_,h1,.inr ⟨g,rfl,h2⟩,fun g' e=>?_,h4⟩
  simp only [Option.some.injEq,Addr.mk.injEq] at e
  omega
theorem unfOrder_new (s:Sc) (a:Option Addr) (cap:Nat) (w:World) (hc:s.c≤9223372036854775807) (hr:s.r≤9223372036854775807) (hl:s.l.length≤1000000) (hI:InL w a s.l) :
  Calls Tryz.prog 98 #[.agg #[.int .i64 s.c,.int .i64 s.r,.slice a s.l.length cap]] w fun e w'=>∃ b c,e=.returned (.slice b (numR s).length c)∧GotN w' b (numR s)∧NewAt w.heap.size b∧Below w.heap.size w w':=by
 cases h:rightM s
 ·have e:numR s=[]:=by unfold numR;rw [if_neg (by simp [h])]
  rw [e]
  exact (unfOrder_no s a cap w hc hr hl hI h).mono fun _ _ ⟨h1,h2⟩=>⟨none,0,h1,.inl rfl,fun _ e=>by simp at e,h2⟩
 ·have e:numR s=(pcL s).map Pc.n:=by unfold numR;rw [if_pos h]
  rw [e]
  refine (unfOrder_yes s a cap w hI h).mono fun e w' ⟨v,h1,h2,h3⟩=>?_
  have h0:0<((pcL s).map Pc.n).length:=by
   obtain ⟨hc,hr,_,_,_⟩:=right_bounds h
   have hp:1≤s.c*s.r:=Int.le_trans (by omega) (Int.mul_le_mul hc.1 hr.1 (by omega) (by omega):1*1≤s.c*s.r)
   rw [List.length_map,pcL_length]
   omega
  obtain ⟨g,cap',rfl,hb,_,hc⟩:=rowI_form h2 h0
  refine ⟨_,_,h1,.inr ⟨g,rfl,hc⟩,fun g' e=>?_,h3⟩
  simp only [Option.some.injEq,Addr.mk.injEq] at e
  omega
set_option maxHeartbeats 1000000 in
theorem spFolded_any (s:Sc) (a:Option Addr) (cap:Nat) (w:World) (hc:s.c≤9223372036854775807) (hr:s.r≤9223372036854775807) (hl:s.l.length≤1000000) (hI:InL w a s.l) :
  Calls Tryz.prog 86 #[.agg #[.int .i64 s.c,.int .i64 s.r,.slice a s.l.length cap]] w fun e w'=>(∃ v,e=.returned v∧BlkV w' s v)∧Below w.heap.size w w':=by
 have K1:=fun w1 (h:Below w.heap.size w w1)=>unfOf_new s a cap w1 hc hr hl (hI.up h)
 have K2:=fun w1 (h:Below w.heap.size w w1)=>unfOrder_new s a cap w1 hc hr hl (hI.up h)
 have hn:(numR s).length=(pcR s).length:=by rw [numR_eq,List.length_map]
 unfold BlkV
 rw [pcR_length] at K1
 rw [hn] at K2
 generalize (pcR s).length=m at *
 generalize panR s=P at *
 generalize numR s=N at *
 generalize s.l.length=n at *
 generalize s.c=c at *
 generalize s.r=r at *
 have H1:=Lib.hid K1;have H2:=Lib.hid K2
 clear K1 K2 hI hn
 go_enter Tryz.func86,Tryz.ntmps86
 go_wp2_with fail
 have A:=(Bx.new w 26 [.int .i64 c,.int .i64 r,.slice a n cap]).alloc (.cells #[.int .i64 0,.slice none 0 0,.slice none 0 0] 117)
 have R:=Bx.new (w.alloc (.cells #[.int .i64 c,.int .i64 r,.slice a n cap] 26)) 117 [.int .i64 0,.slice none 0 0,.slice none 0 0]
 simp only [World.size_alloc] at R
 have B1:=up_alloc (up_alloc (Below.refl _ w) (.cells #[.int .i64 c,.int .i64 r,.slice a n cap] 26)) (.cells #[.int .i64 0,.slice none 0 0,.slice none 0 0] 117)
 generalize (w.alloc (.cells #[.int .i64 c,.int .i64 r,.slice a n cap] 26)).alloc (.cells #[.int .i64 0,.slice none 0 0,.slice none 0 0] 117)=w1 at *
 have HB:=Lib.hid B1;have HA:=Lib.hid A;have HR:=Lib.hid R
 have KS:∀ w':World,Below w1.heap.size w1 w'→w'.cell? ⟨w.heap.size,0,none⟩=some (.int .i64 c)∧w'.cell? ⟨w.heap.size,1,none⟩=some (.int .i64 r)∧w'.cell? ⟨w.heap.size,2,none⟩=some (.slice a n cap):=fun w' h =>
  have X:=A.up h
  ⟨X.cell 0 rfl,X.cell 1 rfl,X.cell 2 rfl⟩
 have hsz:w1.heap.size>w.heap.size+1:=R.lt
 have HKS:=Lib.hid KS
 clear B1 A R KS
 go_region_held3 (fun w'=>w'.cell? ⟨w.heap.size,0,none⟩=some (.int .i64 c)∧w'.cell? ⟨w.heap.size,1,none⟩=some (.int .i64 r)∧w'.cell? ⟨w.heap.size,2,none⟩=some (.slice a n cap))
  ((first | (refine HKS.out _ ?_;first | exact hB2 | exact hB1 | exact up_drew (Below.refl _ _)) | (have X:=(((HA.out.up hB2).far (p:=⟨w.heap.size+1,0,none⟩) (Nat.ne_of_gt (Nat.lt_succ_self _)) (.int .i64 c)).far (p:=⟨w.heap.size+1,1,none⟩) (Nat.ne_of_gt (Nat.lt_succ_self _)) (.slice b1 m m)).far (p:=⟨w.heap.size+1,2,none⟩) (Nat.ne_of_gt (Nat.lt_succ_self _)) (.slice b2 m c2);exact ⟨X.cell 0 rfl,X.cell 1 rfl,X.cell 2 rfl⟩)))
  (first
   | (go_at_call 97;with_reducible refine (H1.out _ (up_drew HB.out)).mono ?_;rintro e w2 ⟨b1,rfl,hp1,hn1,hb1⟩;have hB1:Below w1.heap.size w1 w2:=up_trans (up_drew (Below.refl _ _)) hb1)
   | (go_at_call 98;with_reducible refine (H2.out _ (up_trans HB.out hB1)).mono ?_;rintro e w3 ⟨b2,c2,rfl,hp2,hn2,hb2⟩;have hB2:Below w1.heap.size w1 w3:=up_trans hB1 hb2;replace hp1:=hp1.up hb2;have r0:=(HR.out.up hB2).cell 0 rfl;have r1:=(HR.out.up hB2).cell 1 rfl;have r2:=(HR.out.up hB2).cell 2 rfl;have rf:=(HR.out.up hB2).free))
 rename_i hHeld
 clear hHeld r0 r1 r2 rf
 have hs2:w1.heap.size≤w2.heap.size:=hB1.size
 have hw1:w1.drew.heap.size=w1.heap.size:=rfl
 have Rz:=(((HR.out.up hB2).set 0 (.int .i64 c)).set 1 (.slice b1 m m)).set 2 (.slice b2 m c2)
 have Hp1:=Lib.hid (((hp1.store hn1 (p:=⟨w.heap.size+1,0,none⟩) (by simp only [hw1];omega) (.int .i64 c)).store hn1 (p:=⟨w.heap.size+1,1,none⟩) (by simp only [hw1];omega) (.slice b1 m m)).store hn1 (p:=⟨w.heap.size+1,2,none⟩) (by simp only [hw1];omega) (.slice b2 m c2))
 have Hp2:=Lib.hid (((hp2.store hn2 (p:=⟨w.heap.size+1,0,none⟩) (by simp only;omega) (.int .i64 c)).store hn2 (p:=⟨w.heap.size+1,1,none⟩) (by simp only;omega) (.slice b1 m m)).store hn2 (p:=⟨w.heap.size+1,2,none⟩) (by simp only;omega) (.slice b2 m c2))
 have BB:=up_trans HB.out hB2
 have BU:=Lib.hid (up_set (up_set (up_set BB (p:=⟨w.heap.size+1,0,none⟩) (by simp only;omega) (.int .i64 c)) (p:=⟨w.heap.size+1,1,none⟩) (by simp only;omega) (.slice b1 m m)) (p:=⟨w.heap.size+1,2,none⟩) (by simp only;omega) (.slice b2 m c2))
 generalize ((w3.setCell ⟨w.heap.size+1,0,none⟩ (.int .i64 c)).setCell ⟨w.heap.size+1,1,none⟩ (.slice b1 m m)).setCell ⟨w.heap.size+1,2,none⟩ (.slice b2 m c2)=w4 at *
 have r0:=Rz.cell 0 rfl;have r1:=Rz.cell 1 rfl;have r2:=Rz.cell 2 rfl
 clear hp1 hp2 hn1 hn2 hb1 hb2 hB1 hB2 Rz BB
 go_wp2
 refine bodyPost_ret (v:=.agg #[.int .i64 c,.slice b1 m m,.slice b2 m c2]) (by simp [results,Tryz.results86,go_sem,r0,r1,r2]) rfl ⟨⟨_,rfl,b1,b2,c2,rfl,Hp1.out,Hp2.out⟩,BU.out⟩
theorem pcR_small (s:Sc):(pcR s).length≤64:=by rw [←pcR_length];exact (panR_length s).1
theorem spNests_odd (s:Sc) (a:Option Addr) (cap:Nat) (w:World) (hc:s.c≤9223372036854775807) (hr:s.r≤9223372036854775807) (hl:s.l.length≤1000000) (hI:InL w a s.l) (ho:(pcR s).length=0∨(pcR s).length%2≠0) :
  Calls Tryz.prog 76 #[.agg #[.int .i64 s.c,.int .i64 s.r,.slice a s.l.length cap]] w fun e w'=>e=.returned (.bool (nestM s.c (pcR s)))∧Below w.heap.size w w':=by
 rw [nest_odd ho]
 have K1:=fun w1 (h:Below w.heap.size w w1)=>spFolded_any s a cap w1 hc hr hl (hI.up h)
 have hm:=pcR_small s
 have HB0:=Lib.hid (up_alloc (Below.refl _ w) (.cells #[.int .i64 s.c,.int .i64 s.r,.slice a s.l.length cap] 26))
 unfold BlkV at K1
 generalize (pcR s).length=m at *
 generalize s.l.length=n at *
 generalize s.c=c at *
 generalize s.r=r at *
 generalize panR s=P at *
 generalize numR s=N at *
 have H1:=Lib.hid K1
 clear K1 hI hc hr hl
 have hw:∀ (w1:World) (o:Obj),Below w.heap.size w w1→Below w.heap.size w (w1.alloc o):=fun _ o h=>up_alloc h o
 have HW:=Lib.hid hw
 clear hw
 rcases ho with rfl | ho
 ·go_enter Tryz.func76,Tryz.ntmps76
  go_wp2_with fail
  refine (H1.out _ HB0.out).mono ?_
  rintro e w1 ⟨⟨v,rfl,b1,b2,c',rfl,_,_⟩,hb⟩
  have B1:=Lib.hid (up_trans HB0.out hb)
  clear hb
  go_wp2
  go_ret
  exact ⟨rfl,HW.out _ _ B1.out⟩
 ·have e0:((m:Int)==0)=false:=by rw [Bool.eq_false_iff,ne_eq,beq_iff_eq];omega
  have e1:(m:Int)%2=1:=by omega
  have e2:(m:Int).tmod 2=1:=by rw [Int.tmod_eq_emod_of_nonneg (by omega)];omega
  clear ho
  go_enter Tryz.func76,Tryz.ntmps76
  go_wp2_with fail
  refine (H1.out _ HB0.out).mono ?_
  rintro e w1 ⟨⟨v,rfl,b1,b2,c',rfl,_,_⟩,hb⟩
  have B1:=Lib.hid (up_trans HB0.out hb)
  clear hb
  go_wp2
  go_ret
  exact ⟨rfl,HW.out _ _ B1.out⟩
def NestRel (w2:World) (c:Int) (L:List Pc) (h:Nat) (i:Value) (wr:World):Prop :=
 ∃ k:Nat,k≤h∧i=.int .i64 (k:Int)∧Hid (∀ j,j<k→edgM c L (j:Int) ((L.length:Int)-1-(j:Int))=1)∧Below w2.heap.size w2 wr
set_option maxHeartbeats 1000000 in
theorem spNests_even (s:Sc) (a:Option Addr) (cap:Nat) (w:World) (hc:s.c≤9223372036854775807) (hr:s.r≤9223372036854775807) (hl:s.l.length≤1000000) (hI:InL w a s.l) (h:Nat) (h0:0<h) (he:(pcR s).length=2*h) :
  Calls Tryz.prog 76 #[.agg #[.int .i64 s.c,.int .i64 s.r,.slice a s.l.length cap]] w fun e w'=>e=.returned (.bool (nestM s.c (pcR s)))∧Below w.heap.size w w':=by
 have K1:=fun w1 (h:Below w.heap.size w w1)=>spFolded_any s a cap w1 hc hr hl (hI.up h)
 have hm:=pcR_small s
 have KE:=fun v w1 (hv:BlkV w1 s v) (x y:Int)=>blkEdge_any s v x y w1 hv
 have HB0:=Lib.hid (up_alloc (Below.refl _ w) (.cells #[.int .i64 s.c,.int .i64 s.r,.slice a s.l.length cap] 26))
 have hno:=fun k (hk:k<h)=>@nest_no s.c (pcR s) k (by omega)
 have hyes:=fun (hk:∀ k:Nat,k<h→edgM s.c (pcR s) (k:Int) (((pcR s).length:Int)-1-(k:Int))=1)=>@nest_yes s.c (pcR s) (by omega) (by omega) (fun k h2=>hk k (by omega))
 have hform:∀ w1 v,BlkV w1 s v→∃ b1 b2 c',v=.agg #[.int .i64 s.c,.slice b1 (pcR s).length (pcR s).length,.slice b2 (pcR s).length c']:=fun w1 v ⟨b1,b2,c',e,_⟩=>⟨b1,b2,c',e⟩
 have hlen:(pcR s).length=(pcR s).length:=rfl
 unfold NestRel at *
 generalize pcR s=L at *
 obtain ⟨m,hmm⟩:∃ m,L.length=m:=⟨_,rfl⟩
 rw [hmm] at hm hno hyes hform he
 obtain ⟨c,hcc⟩:∃ c,s.c=c:=⟨_,rfl⟩
 obtain ⟨r,hrr⟩:∃ r,s.r=r:=⟨_,rfl⟩
 obtain ⟨n,hnn⟩:∃ n,s.l.length=n:=⟨_,rfl⟩
 rw [hcc,hrr,hnn] at K1 HB0
 rw [hcc] at hno hyes hform KE
 rw [hcc,hrr,hnn]
 obtain ⟨V,hV⟩:∃ V,nestM c L=V:=⟨_,rfl⟩
 rw [hV] at hno hyes ⊢
 have H1:=Lib.hid K1;have HE:=Lib.hid KE;have HNo:=Lib.hid hno;have HYes:=Lib.hid hyes;have HF:=Lib.hid hform
 clear K1 KE hno hyes hform hI hc hr hl hcc hrr hnn hV hlen
 have e0:((m:Int)==0)=false:=by rw [Bool.eq_false_iff,ne_eq,beq_iff_eq];omega
 have e1:(m:Int)%2=0:=by omega
 have e2:(m:Int).tmod 2=0:=by rw [Int.tmod_eq_emod_of_nonneg (by omega)];omega
 have e3:(m:Int) / 2=(h:Int):=by omega
 have e4:(m:Int).tdiv 2=(h:Int):=by rw [Int.tdiv_eq_ediv_of_nonneg (by omega)];omega
 have hhm:(h:Int)+h=m:=by omega
 clear he
 have HM:=Lib.hid hmm
 clear hmm
 go_enter Tryz.func76,Tryz.ntmps76
 go_wp2_with fail
 refine (H1.out _ HB0.out).mono ?_
 rintro e w1 ⟨⟨v,rfl,hv⟩,hb⟩
 have HV:=Lib.hid hv
 obtain ⟨b1,b2,c',rfl⟩:=HF.out _ _ hv
 have B1:=Lib.hid (up_trans HB0.out hb)
 clear hv hb
 go_wp2
 have A:=Bx.new w1 117 [.int .i64 c,.slice b1 m m,.slice b2 m c']
 have HV2:=Lib.hid (HV.out.up (up_alloc (Below.refl _ w1) (.cells #[.int .i64 c,.slice b1 m m,.slice b2 m c'] 117)))
 have B2:=Lib.hid (up_alloc B1.out (.cells #[.int .i64 c,.slice b1 m m,.slice b2 m c'] 117))
 obtain ⟨W,hW⟩:∃ W,w1.alloc (.cells #[.int .i64 c,.slice b1 m m,.slice b2 m c'] 117)=W:=⟨_,rfl⟩
 have hW':w1.alloc (.cells [.int .i64 c,.slice b1 m m,.slice b2 m c'].toArray 117)=W:=hW
 rw [hW'] at A
 rw [hW] at HV2 B2
 have HA:=Lib.hid A
 rw [hW]
 clear hW hW' A HV B1
 go_loopw [20] (fun i wr=>NestRel W c L h i wr) (fun i _=>h-(intOf i).toNat)
 case atStart=>exact ⟨0,by omega,by go_num,Lib.hid (fun j hj=>absurd hj (Nat.not_lt_zero _)),Below.refl _ _⟩
 case round =>
  obtain ⟨k,hk,rfl,hall,hb⟩:=hrel
  have A:=HA.out.up hb
  have f0:=A.cell 0 rfl;have f1:=A.cell 1 rfl;have f2:=A.cell 2 rfl
  have HB:=Lib.hid hb
  have HVk:=Lib.hid (HV2.out.up hb)
  clear hb A
  by_cases hlt:k<h
  ·have z1:(k:Int)<(h:Int):=by omega
   have KE:=HE.out _ _ HVk.out (k:Int) ((m:Int)-1-(k:Int))
   have hno:=HNo.out k hlt
   obtain ⟨E,hE⟩:∃ E,edgM c L (k:Int) ((m:Int)-1-(k:Int))=E:=⟨_,rfl⟩
   rw [hE] at KE hno
   have HKE:=Lib.hid KE;have HNk:=Lib.hid hno;have HEk:=Lib.hid hE
   clear KE hno hE
   by_cases h1:E=1
   ·subst h1
    go_wp2_with fail
    refine HKE.out.mono ?_
    rintro e w3 ⟨rfl,hb3⟩
    have HB3:=Lib.hid (up_trans HB.out hb3)
    clear hb3 f0 f1 f2
    go_wp2
    refine ⟨⟨k+1,by omega,by go_num,Lib.hid (fun j hj=>?_),HB3.out⟩,by simp [intOf];omega⟩
    by_cases hjk:j<k
    ·exact hall.out j hjk
    ·obtain rfl:j=k:=by omega
     rw [HM.out]
     exact HEk.out
   ·have h1':(E != 1)=true:=bne_iff_ne.2 h1
    obtain rfl:=HNk.out h1
    go_wp2_with fail
    refine HKE.out.mono ?_
    rintro e w3 ⟨rfl,hb3⟩
    have HB3:=Lib.hid (up_trans HB.out hb3)
    clear hb3 f0 f1 f2
    go_wp2
    go_ret
    exact ⟨rfl,up_trans B2.out HB3.out⟩
  ·obtain rfl:k=h:=by omega
   obtain rfl:=HYes.out (by have:=hall.out;rwa [HM.out] at this)
   go_wp2
   go_ret
   exact ⟨rfl,up_trans B2.out HB.out⟩
theorem spNests_any (s:Sc) (a:Option Addr) (cap:Nat) (w:World) (hc:s.c≤9223372036854775807) (hr:s.r≤9223372036854775807) (hl:s.l.length≤1000000) (hI:InL w a s.l) :
  Calls Tryz.prog 76 #[.agg #[.int .i64 s.c,.int .i64 s.r,.slice a s.l.length cap]] w fun e w'=>e=.returned (.bool (nestM s.c (pcR s)))∧Below w.heap.size w w':=by
 by_cases ho:(pcR s).length=0∨(pcR s).length%2≠0
 ·exact spNests_odd s a cap w hc hr hl hI ho
 ·exact spNests_even s a cap w hc hr hl hI ((pcR s).length / 2) (by omega) (by omega)
end Go.Proofs.YtbbjileignefbaaGreatDoor
namespace Go.Proofs.YtbbjileignefbaaGreatDoor
open Go.RowKit DecMath
theorem take_snoc {α:Type} {l:List α} {k:Nat} {p:α} (h:l[k]?=some p):l.take (k+1)=l.take k++[p]:=by
 obtain ⟨hlt,rfl⟩:=List.getElem?_eq_some_iff.1 h
 exact List.take_succ_eq_append_getElem hlt
end Go.Proofs.YtbbjileignefbaaGreatDoor
namespace Go.Proofs.YtbbjileignefbaaGreatDoor
open Go.RowKit Go.Shelf
abbrev CatE:={ e:List UInt8×Sc // e∈catS }
def catL:List CatE:=catS.attach
def textE (x:CatE):List UInt8:=joinM (partsM x.1.2)
def encE (x:CatE):Array Value:=#[.string (tx x.1.1),.string (tx (textE x))]
def rowE (e:List UInt8×Sc):List UInt8:=e.1++32 :: joinM (partsC e.2)
theorem cat_cut:∀ e∈catS,Lib.cut (rowE e) [32]=(e.1,joinM (partsC e.2),true):=by decide +kernel
theorem cat_split:∀ e∈catS,Lib.split (joinM (partsC e.2)) [32]=partsC e.2:=by decide +kernel
theorem cat_short:∀ e∈catS,(rowE e).length≤100∧(joinM (partsC e.2)).length≤100∧∀ p∈partsC e.2,p.length≤100:=by decide +kernel
theorem catL_length:catL.length=21:=by simp [catL];rfl
theorem catL_at {k:Nat} {x:CatE} (h:catL[k]?=some x):catS[k]?=some x.1:=by
 unfold catL at h
 rw [List.getElem?_attach] at h
 simp only [Option.pmap_eq_some_iff] at h
 obtain ⟨a,ha,h1,rfl⟩:=h
 exact h1
theorem below_drewN {B:Nat} {a w:World} (h:Below B a w):∀ n,Below B a (w.drewN n)
 | 0=>h
 | n+1=>(below_drewN h n).drew
def catC:Array Value:=(catS.map fun e=>Value.string (tx (rowE e))).toArray
def catZ:Array Value:=(List.replicate 21 (Value.string ⟨#[]⟩)).toArray
theorem cat_alloc (w:World):(Instr.alloc 120 true (.tuple #[])).run Tryz.prog w=.ok (.pointer (some ⟨w.heap.size,0,none⟩)) (w.alloc (.cells catZ 120)):=by
 kernel_rfl
theorem cat_row (k:Nat) (e:List UInt8×Sc) (h:catS[k]?=some e) (w:World):(Instr.index 120 (.agg catC) (.int .i64 (k:Int))).run Tryz.prog w=.ok (.string (tx (rowE e))) w:=by
 have hk:k<21:=(List.getElem?_eq_some_iff.1 h).1
 have hc:k=0∨k=1∨k=2∨k=3∨k=4∨k=5∨k=6∨k=7∨k=8∨k=9∨k=10∨k=11∨k=12∨k=13∨k=14∨k=15∨k=16∨k=17∨k=18∨k=19∨k=20:=by omega
 rcases hc with rfl | rfl | rfl | rfl | rfl | rfl | rfl | rfl | rfl | rfl | rfl | rfl | rfl | rfl | rfl | rfl | rfl | rfl | rfl | rfl | rfl
 all_goals
  obtain rfl:=Option.some.inj h
  exact (show _=_ from by kernel_rfl)
theorem grown_row (W:World) (cs cs':Array Value) (t:TypeId):W.grownBy ((W.alloc (.cells cs t)).setRow W.heap.size cs') none:=by
 refine ⟨rfl,rfl,rfl,by simp [World.setRow],fun k hk _=>?_⟩
 unfold World.setRow
 simp only [Array.getElem?_modify]
 rw [if_neg (by omega)]
 exact Below.heap_alloc W _ _ hk
theorem below_row (W:World) {B:Nat} (cs cs':Array Value) (t:TypeId) (h:B≤W.heap.size):Below B W ((W.alloc (.cells cs t)).setRow W.heap.size cs'):=by
 have hg:=grown_row W cs cs' t
 exact Below.grown (Below.refl B W) hg h (fun k e=>by cases e)
theorem cat_cutRow (x:CatE) (w:World) (hm:Mx w) :
  Calls Tryz.prog 88 #[.string (tx (rowE x.1)),.string ⟨#[32]⟩] w fun e w'=>e=.returned (.tuple #[.string (tx x.1.1),.string (tx (textE x)),.bool true])∧∃ n,w'=w.drewN n:=by
 obtain ⟨m,hm⟩:=hm
 refine (Tryz.strings_Cut (tx (rowE x.1)) ⟨#[32]⟩ m w (by have:=(cat_short x.1 x.2).1;rw [tx_size];omega) hm).mono ?_
 rintro e w' ⟨rfl,n,rfl⟩
 refine ⟨?_,n,rfl⟩
 rw [data_tx,show (⟨#[32]⟩:ByteArray).data.toList=[32] from rfl,cat_cut x.1 x.2]
 unfold textE
 rw [cat_parts x.1 x.2]
 rfl
set_option maxRecDepth 100000 in
set_option maxHeartbeats 4000000 in
theorem catalogue_in (n l0 n₀:Nat) (J Jx:List CatE→World→Prop)
  (hal:∀ pre W W',J pre W→W.grownBy W' none→J pre W')
  (hY:∀ pre x W,J pre W→pre.length<21→YieldAt Fence.wide (n-1) Tryz.prog l0 (encE x) W fun e W' =>
   (e=.returned (.bool true)∧J (pre++[x]) W'∧Below n₀ W W')∨(e=.returned (.bool false)∧Jx (pre++[x]) W'))
  (W:World) (hn:n₀≤W.heap.size) (hm:∃ m,2<n₀∧W.cell? ⟨2,0,none⟩=some (.int .i64 m)) (h0:J [] W) :
  CallsIn Fence.wide n Tryz.prog 77 #[.func (.yield l0) #[] #[]] W fun e W'=>(∃ v,e=.returned v) ∧
   ((∃ ys,ys=catL∧J ys W')∨(∃ pre,(∃ k,k<21∧pre=catL.take (k+1))∧Jx pre W')):=by
 refine callsIn_of_wp Tryz.func77 rfl trivial ?_ rfl
 simp only [Tryz.ntmps77,List.size_toArray,List.length_cons,List.length_nil,Nat.reduceAdd,Nat.reduceSub,Array.replicate_succ,Array.replicate_zero,List.push_toArray,List.append_toArray,List.nil_append,List.cons_append]
 have HY:=Lib.hid hY;have HJ:=Lib.hid h0;have HN:=Lib.hid hn;have HL:=Lib.hid hal;have HM:=Lib.hid hm
 clear hY hal h0 hm
 clear hn
 refine wpIn_seq (wpIn_wide.2 (wp_region_lit ?_))
 refine wpList_build_to rfl 120 _ rfl catC (by kernel_rfl) ?_
 refine wpList_alloc_to rfl _ rfl _ _ (cat_alloc W) ?_
 refine wpList_store_row rfl _ _ _ rfl W.heap.size catC rfl rfl _ _ (heap_alloc_new W _) (by kernel_rfl) (by kernel_rfl) (by kernel_rfl) ?_
 refine wpList_nil ?_
 show Code.wpIn Fence.wide n Tryz.prog _ _ _ _
 refine wpIn_seq (wpIn_wide.2 (wp_region_lit ?_))
 refine wpList_load_row rfl _ _ rfl W.heap.size rfl _ catC _ _ (setRow_heap _ _ _ _ _ _ (heap_alloc_new W _)) Tryz.underlying120 rfl (by kernel_rfl) ?_
 have hr:=fun k e h w=>cat_row k e h w
 obtain ⟨A,hA⟩:∃ A,Value.agg catC=A:=⟨_,rfl⟩
 have hg:W.grownBy ((W.alloc (.cells catZ 120)).setRow W.heap.size catC) none:=grown_row W _ _ _
 have hw:Below n₀ W ((W.alloc (.cells catZ 120)).setRow W.heap.size catC):=below_row W _ _ _ HN.out
 have hJ1:=HL.out _ _ _ HJ.out hg
 rw [hA] at hr ⊢
 generalize ((W.alloc (.cells catZ 120)).setRow W.heap.size catC)=w1 at *
 have HJ1:=Lib.hid hJ1;have HB:=Lib.hid hw;have HR:=Lib.hid hr
 clear hA hg hw hJ1 hr
 refine wpList_plain rfl fun _ hK=>?_
 unfold Oper.wp execOp
 refine hK _ _ (wpList_nil ?_)
 show Code.wpIn Fence.wide n Tryz.prog _ _ _ _
 gi_wp2
 gi_loopw [10] (fun i wr=>∃ k:Nat,k≤21∧i=.int .i64 (k:Int)∧J (catL.take k) wr∧Below n₀ W wr) (fun i _=>21-(intOf i).toNat)
 case atStart=>exact ⟨0,by omega,by go_num,HJ1.out,HB.out⟩
 case round =>
  obtain ⟨k,hk,rfl,hJs,hb⟩:=hrel
  by_cases hlt:k<21
  ·obtain ⟨x,hx⟩:∃ x,catL[k]?=some x:=⟨catL[k]'(by rw [catL_length];exact hlt),List.getElem?_eq_getElem _⟩
   have hix:=fun w=>HR.out k x.1 (catL_at hx) w
   have hs:=take_snoc hx
   have z0:(0:Int)≤(k:Int):=by omega
   have z1:(k:Int)<21:=by omega
   obtain ⟨m,hm,hcm⟩:=HM.out
   have KC:=cat_cutRow x wr ⟨m,(hb.cell (p:=⟨2,0,none⟩) hm).trans hcm⟩
   have KY:=fun W' h=>HY.out (catL.take k) x W' h (by rw [List.length_take,catL_length];omega)
   unfold encE at KY
   have HKC:=Lib.hid KC;have HKY:=Lib.hid KY;have HS:=Lib.hid hs;have HBk:=Lib.hid hb;have HJk:=Lib.hid hJs
   generalize tx (rowE x.1)=P at *
   generalize tx x.1.1=Q at *
   generalize tx (textE x)=R at *
   clear KC KY hs hb hJs hx
   gi_wp2
   refine ⟨trivial,fun h=>by simp [Fence.wide] at h,(callsIn_wide.2 HKC.out).mono ?_⟩
   rintro e w2 ⟨rfl,nd,rfl⟩
   have hJ2:=HL.out _ _ (wr.drewN nd) HJk.out ⟨rfl,rfl,rfl,Nat.le_refl _,fun _ _ _=>rfl⟩
   obtain ⟨fn,tmps,assign,body,hy,hR⟩:=HKY.out _ hJ2
   clear hJ2 HKY HKC hix hcm
   gi_wp2
   refine ⟨fun h=>by simp [Fence.wide] at h,hR.mono ?_⟩
   rintro e W3 (⟨rfl,hJ3,hk3⟩ | ⟨rfl,hJx3⟩)
   ·gi_wp2
    go_roundw
    case rel=>exact ⟨k+1,by omega,by go_num,by rw [HS.out];exact hJ3,(below_drewN HBk.out nd).trans hk3⟩
    case measure=>simp [intOf];omega
   ·gi_wp2
    refine bodyPost_ret (results_none rfl _ _ _) rfl ?_
    exact ⟨⟨_,rfl⟩,.inr ⟨_,⟨k,hlt,rfl⟩,by rw [HS.out];exact hJx3⟩⟩
  ·obtain rfl:k=21:=by omega
   have HJ2:=Lib.hid hJs
   clear hJs hb
   gi_wp2
   go_end0
   exact ⟨⟨_,rfl⟩,.inl ⟨_,rfl,by have:=HJ2.out;rwa [List.take_of_length_le (by rw [catL_length];omega)] at this⟩⟩
theorem catalogue_stops (n:Nat) (w:World) (hm:Mx w) :
  SeqStopsK Fence.wide n Tryz.prog 77 #[] encE (Below w.heap.size) (fun ys=>ys=catL) (fun pre=>∃ k,k<21∧pre=catL.take (k+1)) 21 w:=fun l0 J Jx W hW hJ _ hY h0=>by
 obtain ⟨m,hm⟩:=hm
 have hlt:=World.block_lt_of_cell? w _ hm
 exact catalogue_in n l0 w.heap.size J Jx (fun pre W W' h hg=>hJ pre W W' none h hg (fun r e=>by cases e)) hY W hW.size ⟨m,hlt,bl_cell hW hm⟩ h0
end Go.Proofs.YtbbjileignefbaaGreatDoor
