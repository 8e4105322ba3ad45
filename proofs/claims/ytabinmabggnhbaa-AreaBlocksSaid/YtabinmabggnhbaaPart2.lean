/- Part 2 of the texts that the proofs of this seat share: SchemeRead, CloneRows, But, Wide, JobAt, NumRow, RefNums, QuickOrder, AnyOrder, RefPut, SchemeFind. -/
import Derived.Test.YtabinmabggnhbaaPart1
import Derived.Lib.Hide
import Derived.OwnWalk
import Derived.Lib.Strings
import Derived.Lib.Split
import Derived.LoopN
import Derived.Lib.SliceRun
import Derived.IntWalk
import Derived.Laws.AppendOwn
import Derived.Laws.IdiomCopy
import Derived.RangeFuncBox
import Derived.Deep.Upon
import Derived.BigQuiet
import Derived.Deep.MidRow
import Derived.Laws.Tables
import Derived.Test.YtabinmabggnhbaaProg
import Derived.WalkKit
import Derived.StillTail
import Derived.KernelRfl
import Derived.Deep.DeepCutAuto
import Derived.RangeFuncNested
import Derived.RangeFuncBound
import Derived.RangeFuncCalls
import Derived.RangeFuncLeaves
import Derived.Shelf.Abstract
import Derived.Shelf.RegionOpen
import Derived.OwnWalkIn
import Derived.TacticsInMore
import Derived.LoopNIn
import Derived.LoopIn
set_option linter.unnecessarySimpa false
set_option linter.unusedVariables false
namespace Go.Proofs.Ytabinmabggnhbaa
open Go.RowKit
def flatS:List Sp→List Value
 | []=>[]
 | p :: l=>.int .i64 p.d :: .int .i64 p.n :: .bool p.u :: flatS l
theorem flatS_at (l:List Sp):∀ (j:Nat) (p:Sp),l[j]?=some p→(flatS l)[j*3]?=some (.int .i64 p.d)∧(flatS l)[j*3+1]?=some (.int .i64 p.n)∧(flatS l)[j*3+2]?=some (.bool p.u):=by
 induction l with
 | nil=>intro j p h;simp at h
 | cons q l ih =>
  intro j p h
  cases j with
  | zero=>simp at h;subst h;exact ⟨rfl,rfl,rfl⟩
  | succ j =>
   obtain ⟨h0,h1,h2⟩:=ih j p (by simpa using h)
   have e:(j+1)*3=j*3+1+1+1:=by omega
   rw [e]
   refine ⟨?_,?_,?_⟩
   ·simpa [flatS] using h0
   ·simpa [flatS] using h1
   ·simpa [flatS] using h2
def rowP (w:World) (base:Nat) (v:Value) (l:List Sp):Prop:=w.ownsRow base 61 3 v l.length (flatS l)
theorem rowP.kept {w w':World} {base:Nat} {v:Value} {l:List Sp} (h:rowP w base v l) (hb:∀ k,base≤k→k<w.heap.size→w'.heap[k]?=w.heap[k]?):rowP w' base v l:=own_kept h hb
theorem rowP.up {w w':World} {base:Nat} {v:Value} {l:List Sp} (h:rowP w base v l) (hb:Below w.heap.size w w'):rowP w' base v l:=h.kept fun k _ hk=>hb.block k hk
theorem rowP.steps {w:World} {base:Nat} {v:Value} {l:List Sp} (h:rowP w base v l):∃ a cap,v=.slice a l.length cap∧InL w a l:=by
 rcases h.2 with ⟨rfl,h0⟩ | ⟨g,cap,cur,rfl,hb,hg,hcap,hmax,hsz,htk⟩
 ·exact ⟨none,0,by rw [h0],.inl (List.eq_nil_of_length_eq_zero h0)⟩
 ·refine ⟨some ⟨g,0,none⟩,cap,rfl,.inr ⟨g,0,rfl,fun j p hp=>?_⟩⟩
  obtain ⟨h0,h1,h2⟩:=flatS_at l j p hp
  have e:∀ i,(⟨g,0,none⟩:Addr).add i=⟨g,i,none⟩:=fun i=>by unfold Addr.add;split<;>simp_all
  have c0:=h.cells (g:=g) rfl _ _ h0
  have c1:=h.cells (g:=g) rfl _ _ h1
  have c2:=h.cells (g:=g) rfl _ _ h2
  rw [e] at c0 c1 c2
  simpa using ⟨c0,c1,c2⟩
theorem rowP.inL {w:World} {base:Nat} {a:Option Addr} {n c:Nat} {l:List Sp} (h:rowP w base (.slice a n c) l):InL w a l:=by
 obtain ⟨a',c',e,hL⟩:=h.steps
 injection e with e1 e2 e3
 rw [e1]
 exact hL
def InF (base:Nat) (w:World) (a:Option Addr) (l:List Sp):Prop:=l=[]∨∃ b off,a=some ⟨b,off,none⟩∧base≤b∧InS w b off l
theorem InF.inL {base:Nat} {w:World} {a:Option Addr} {l:List Sp} (h:InF base w a l):InL w a l:=h.imp id fun ⟨b,off,e,_,h⟩=>⟨b,off,e,h⟩
theorem InF.mono {base base':Nat} {w:World} {a:Option Addr} {l:List Sp} (h:InF base w a l) (hb:base'≤base):InF base' w a l:=h.imp id fun ⟨b,off,e,h0,h⟩=>⟨b,off,e,by omega,h⟩
theorem InF.up {base:Nat} {w w':World} {a:Option Addr} {l:List Sp} (h:InF base w a l) (hb:Below w.heap.size w w'):InF base w' a l:=h.imp id fun ⟨b,off,e,h0,h⟩=>⟨b,off,e,h0,h.up hb⟩
theorem InF.set {base:Nat} {w:World} {a:Option Addr} {l:List Sp} (h:InF base w a l) {p:Addr} (hp:p.block<base) (x:Value):InF base (w.setCell p x) a l:=h.imp id fun ⟨b,off,e,h0,h⟩=>⟨b,off,e,h0,fun j q hq=>by
 obtain ⟨c0,c1,c2⟩:=h j q hq
 have hf:∀ o v,w.cell? ⟨b,o,none⟩=some v→(w.setCell p x).cell? ⟨b,o,none⟩=some v:=fun o v hv=>(World.cell?_setCell_far _ _ _ _ (by simp only;omega)).trans hv
 exact ⟨hf _ _ c0,hf _ _ c1,hf _ _ c2⟩⟩
theorem rowP.set {w:World} {base:Nat} {v:Value} {l:List Sp} (h:rowP w base v l) {p:Addr} (hp:p.block<base) (x:Value):rowP (w.setCell p x) base v l:=h.kept fun j hj _=>Below.heap_setCell _ _ _ _ (by omega)
def TxA (w:World) (a:Option Addr) (c:Nat) (ls:List (List UInt8)):Prop :=
 ls=[]∨∃ g o,a=some ⟨g,o,none⟩∧(∀ i l,ls[i]?=some l→w.cell? ⟨g,o+i,none⟩=some (.string (tx l)))∧ls.length≤c∧c≤maxLen
theorem TxA.up {w w':World} {a:Option Addr} {c:Nat} {ls:List (List UInt8)} (h:TxA w a c ls) (hb:Below w.heap.size w w'):TxA w' a c ls:=by
 rcases h with h | ⟨g,o,h1,h2,h3⟩
 ·exact .inl h
 ·exact .inr ⟨g,o,h1,fun i l hi=>bl_cell hb (h2 i l hi),h3⟩
theorem TxS.arg {w:World} {v:Value} {ls:List (List UInt8)} (h:TxS w v ls):∃ a c,v=.slice a ls.length c∧TxA w a c ls:=by
 obtain ⟨a,c,rfl,h⟩:=h
 refine ⟨a,c,rfl,?_⟩
 rcases h with h | ⟨g,h1,h2,h3⟩
 ·exact .inl h
 ·exact .inr ⟨g,0,h1,fun i l hi=>by rw [Nat.zero_add];exact h2 i l hi,h3⟩
end Go.Proofs.Ytabinmabggnhbaa
namespace Go.Proofs.Ytabinmabggnhbaa
open Go.RowKit Go.Lib
def TxF (base:Nat) (w:World) (a:Option Addr) (c:Nat) (ls:List (List UInt8)):Prop :=
 ls=[]∨∃ g o,a=some ⟨g,o,none⟩∧base≤g∧(∀ i l,ls[i]?=some l→w.cell? ⟨g,o+i,none⟩=some (.string (tx l)))∧ls.length≤c∧c≤maxLen
theorem TxF.arg {base:Nat} {w:World} {a:Option Addr} {c:Nat} {ls:List (List UInt8)} (h:TxF base w a c ls):TxA w a c ls:=h.imp id fun ⟨g,o,e,_,h⟩=>⟨g,o,e,h⟩
theorem TxF.up {base:Nat} {w w':World} {a:Option Addr} {c:Nat} {ls:List (List UInt8)} (h:TxF base w a c ls) (hb:Below w.heap.size w w'):TxF base w' a c ls:=h.imp id fun ⟨g,o,e,h0,h,h2⟩=>⟨g,o,e,h0,fun i l hi=>bl_cell hb (h i l hi),h2⟩
theorem TxF.mono {base base':Nat} {w:World} {a:Option Addr} {c:Nat} {ls:List (List UInt8)} (h:TxF base w a c ls) (hb:base'≤base):TxF base' w a c ls:=h.imp id fun ⟨g,o,e,h0,h⟩=>⟨g,o,e,by omega,h⟩
theorem TxF.keep {base B:Nat} {w w':World} {a:Option Addr} {c:Nat} {ls:List (List UInt8)} (h:TxF base w a c ls) (hB:B<base) (hk:∀ p:Addr,p.block≠B→∀ v,w.cell? p=some v→w'.cell? p=some v):TxF base w' a c ls :=
 h.imp id fun ⟨g,o,e,h0,h,h2⟩=>⟨g,o,e,h0,fun i l hi=>hk _ (by simp only;omega) _ (h i l hi),h2⟩
theorem InF.keep {base B:Nat} {w w':World} {a:Option Addr} {l:List Sp} (h:InF base w a l) (hB:B<base) (hk:∀ p:Addr,p.block≠B→∀ v,w.cell? p=some v→w'.cell? p=some v):InF base w' a l :=
 h.imp id fun ⟨b,off,e,h0,h⟩=>⟨b,off,e,h0,fun j q hq=>by
  obtain ⟨c0,c1,c2⟩:=h j q hq
  exact ⟨hk _ (by simp only;omega) _ c0,hk _ (by simp only;omega) _ c1,hk _ (by simp only;omega) _ c2⟩⟩
end Go.Proofs.Ytabinmabggnhbaa
namespace Go.Proofs.Ytabinmabggnhbaa
open Go.RowKit
structure But (D R:Nat) (w w':World):Prop where
 os:w'.os=w.os
 tape:w'.tape=w.tape
 output:w'.output=w.output
 size:w.heap.size≤w'.heap.size
 block:∀ k,k<w.heap.size→k≠D→k≠R→w'.heap[k]?=w.heap[k]?
theorem But.of {D R:Nat} {w w':World} (h:Below w.heap.size w w'):But D R w w':=⟨h.os,h.tape,h.output,h.size,fun k hk _ _=>h.block k hk⟩
theorem But.refl (D R:Nat) (w:World):But D R w w:=But.of (Below.refl _ _)
theorem But.trans {D R R':Nat} {w w' w'':World} (h:But D R w w') (k:But D R' w' w'') (hR:R'=D∨R'=R∨w.heap.size≤R'):But D R w w'' :=
 ⟨k.os.trans h.os,k.tape.trans h.tape,k.output.trans h.output,Nat.le_trans h.size k.size,fun j hj h1 h2=>(k.block j (Nat.lt_of_lt_of_le hj h.size) h1 (by rcases hR with r | r | r<;>omega)).trans (h.block j hj h1 h2)⟩
theorem But.set {D R:Nat} {w w':World} (h:But D R w w') (o:Nat) (v:Value):But D R w (w'.setCell ⟨D,o,none⟩ v) :=
 ⟨h.os,h.tape,h.output,by have:=h.size;simpa [World.setCell] using this,fun k hk h1 h2=>(Below.heap_setCell _ _ _ _ h1).trans (h.block k hk h1 h2)⟩
theorem But.below {D R B:Nat} {w w':World} (h:But D R w w') (hB:B≤w.heap.size) (h1:B≤D) (h2:B≤R):Below B w w':=⟨h.os,h.tape,h.output,h.size,fun k hk=>h.block k (by omega) (by omega) (by omega)⟩
theorem cell_new (w:World) (cur:Array Value) (t:TypeId) (j:Nat):(w.alloc (.cells cur t)).cell? ⟨w.heap.size,j,none⟩=cur[j]?:=by simp [go_sem]
end Go.Proofs.Ytabinmabggnhbaa
namespace Go.Proofs.Ytabinmabggnhbaa
open Go.RowKit
section
variable {P:Program} {ops:Array Oper} {rest:List Oper} {o:Oper} {a:Act} {w:World} {Q:Exit→Act→World→Prop}
theorem wpList_alloc_to (hg:o.guard=none) (ty:TypeId) (ho:o.op=.alloc ty) (v:Value) (w':World) (hr:(Instr.alloc ty true (.tuple #[])).run P w=.ok v w') (h:wpList P ops Q rest (a.put o.dst v) w'):wpList P ops Q (o :: rest) a w :=
 wpList_plain hg fun _ hK=>by
  unfold Oper.wp execOp
  simp only [ho,Sem.run_bind,hr,Result.andThen_ok]
  exact hK _ _ h
theorem wpList_build_to (hg:o.guard=none) (t:TypeId) (parts:Array (Nat×Operand)) (ho:o.op=.build t parts) (cells:Array Value) (hc:P.built t (parts.map fun (i,x)=>(i,a.eval x)).toList=some cells) (h:wpList P ops Q rest (a.put o.dst (.agg cells)) w):wpList P ops Q (o :: rest) a w :=
 wpList_build hg t parts ho (by rw [hc];rfl) (by rw [hc];exact h)
end
theorem Bx.range {w:World} {B:Nat} {vs:List Value} (h:Bx w B vs):w.rangeAt B 0 vs:=fun j v hj=>by rw [Nat.zero_add];exact h.1 j v hj
theorem Bx.present {w:World} {B:Nat} {vs:List Value} (h:Bx w B vs):w.there B 0 vs.length:=fun j hj=>by
 rw [Nat.zero_add]
 exact ⟨by rw [h.1 j _ (List.getElem?_eq_getElem hj)];rfl,h.2 j⟩
theorem there_up {w w':World} {b o n:Nat} (h:w.there b o n) (hb:Below w.heap.size w w'):w'.there b o n:=fun j hj=>by
 obtain ⟨h1,h2⟩:=h j hj
 obtain ⟨v,hv⟩:=Option.isSome_iff_exists.1 h1
 exact ⟨by rw [bl_cell hb hv];rfl,(kept_marks hb b _ (World.block_lt_of_cell? w _ hv)).trans h2⟩
theorem Bx.lowE {w:World} {B:Nat} {vs:List Value} (h:Bx w B vs) (h0:0<vs.length):B<w.heap.size:=World.block_lt_of_cell? w _ (h.1 0 _ (List.getElem?_eq_getElem h0))
theorem Bx.later {w w':World} {B:Nat} {vs:List Value} (h:Bx w B vs) (h0:0<vs.length) (hb:Below w.heap.size w w'):Bx w' B vs :=
 ⟨fun j v hj=>bl_cell hb (h.1 j v hj),fun j=>(kept_marks hb B j (h.lowE h0)).trans (h.2 j)⟩
theorem Bx.sets {w:World} {B:Nat} {vs ws:List Value} (h:Bx w B vs) (hl:ws.length=vs.length):Bx (w.setCells B 0 ws) B ws:=by
 refine ⟨fun j v hj=>?_,fun j=>by rw [World.frozen?_setCells];exact h.2 j⟩
 have:=World.rangeAt_setCells_same w B 0 ws (by rw [hl];exact h.present) j v hj
 rwa [Nat.zero_add] at this
theorem below_setCells {w:World} {n B:Nat} (hB:n≤B):∀ (ws:List Value) (o:Nat) (w':World),Below n w w'→Below n w (w'.setCells B o ws)
 | [],_,_,h=>h
 | v :: r,o,w',h=>below_setCells hB r (o+1) _ (h.setCell (p:=⟨B,o,none⟩) hB v)
theorem sets_far {w:World} {B C:Nat} {vs:List Value} (h:Bx w C vs) (hne:C≠B) (o:Nat) (ws:List Value):Bx (w.setCells B o ws) C vs:=by
 refine ⟨fun j v hj=>?_,fun j=>by rw [World.frozen?_setCells];exact h.2 j⟩
 rw [World.cell?_setCells_out B ws o w _ (fun e _=>absurd e hne)]
 exact h.1 j v hj
theorem results_wide {P:Program} {fn:Func} {tmps:Array Value} {w:World} {s:Nat} {t:TypeId} (hr:fn.results=#[.cell s t]) (b:Nat) (ht:tmps.getD s undef=.pointer (some ⟨b,0,none⟩)) (cs:List Value) (d:TypeDesc)
  (hc:w.rangeAt b 0 cs) (hu:P.underlying t=some d) (hd:d.isRow=true) (hi:(P.info? t).map (·.size)=some cs.length):(results fn tmps).run P w=.ok (.agg cs.toArray) w:=by
 unfold results
 rw [hr]
 have ht':tmps[s]?.getD undef=.pointer (some ⟨b,0,none⟩):=by simpa using ht
 simp [ht',asAddr,run_loadVar_mid w b 0 t cs d hc hu hd hi]
theorem quiet_load_mid {P:Program} {C:World→Prop} {K:Act→Prop} {o:Oper} {a:Act} (ty:TypeId) (x:Operand) (ho:o.op=.load ty x) (b off:Nat) (hx:a.eval x=.pointer (some ⟨b,off,none⟩)) (cs:List Value) (d:TypeDesc)
  (hS:∀ w,C w→w.rangeAt b off cs) (hu:P.underlying ty=some d) (hd:d.isRow=true) (hi:(P.info? ty).map (·.size)=some cs.length) (h:K (a.put o.dst (.agg cs.toArray))):o.quiet P a C K :=
 ⟨_,fun w hw=>by
  unfold Oper.quietAt execOp
  simp only [ho,hx,Instr.loadAt,Instr.sureAddr,Sem.run_bind,Sem.run_pure,Result.andThen_ok,run_loadVar_mid w b off ty cs d (hS w hw) hu hd hi]
  exact ⟨rfl,rfl⟩,h⟩
theorem later_range {w:World} {B:Nat} {cs:List Value} (h:Bx w B cs) (h0:0<cs.length):∀ w',(∃ u:Later w,w'=u.now)→w'.rangeAt B 0 cs:=by
 rintro _ ⟨u,rfl⟩
 exact (h.later h0 u.up).range
end Go.Proofs.Ytabinmabggnhbaa
namespace Go.Proofs.Ytabinmabggnhbaa
open Go.RowKit
structure Jb where
 t:List UInt8
 n:Nat→Int
 f:Sc
 ls:List (List UInt8)
def JobA (w:World) (cs:List Value) (j:Jb):Prop :=
 ∃ a c a' c',cs=jobL (tx j.t) j.n j.f.c j.f.r (.slice a j.f.l.length c) (.slice a' j.ls.length c')∧InL w a j.f.l∧TxA w a' c' j.ls
def JobF (base:Nat) (w:World) (cs:List Value) (j:Jb):Prop :=
 ∃ a c a' c',cs=jobL (tx j.t) j.n j.f.c j.f.r (.slice a j.f.l.length c) (.slice a' j.ls.length c')∧InF base w a j.f.l∧TxF base w a' c' j.ls
theorem JobF.jobA {base:Nat} {w:World} {cs:List Value} {j:Jb} (h:JobF base w cs j):JobA w cs j:=by
 obtain ⟨a,c,a',c',e,h1,h2⟩:=h
 exact ⟨a,c,a',c',e,h1.inL,h2.arg⟩
theorem JobA.up {w w':World} {cs:List Value} {j:Jb} (h:JobA w cs j) (hb:Below w.heap.size w w'):JobA w' cs j:=by
 obtain ⟨a,c,a',c',e,h1,h2⟩:=h
 exact ⟨a,c,a',c',e,h1.up hb,h2.up hb⟩
theorem JobF.up {base:Nat} {w w':World} {cs:List Value} {j:Jb} (h:JobF base w cs j) (hb:Below w.heap.size w w'):JobF base w' cs j:=by
 obtain ⟨a,c,a',c',e,h1,h2⟩:=h
 exact ⟨a,c,a',c',e,h1.up hb,h2.up hb⟩
theorem JobF.mono {base base':Nat} {w:World} {cs:List Value} {j:Jb} (h:JobF base w cs j) (hb:base'≤base):JobF base' w cs j:=by
 obtain ⟨a,c,a',c',e,h1,h2⟩:=h
 exact ⟨a,c,a',c',e,h1.mono hb,h2.mono hb⟩
theorem JobA.length {w:World} {cs:List Value} {j:Jb} (h:JobA w cs j):cs.length=33:=by
 obtain ⟨a,c,a',c',rfl,-⟩:=h
 rfl
theorem JobA.num {w:World} {cs:List Value} {j:Jb} (h:JobA w cs j) {k:Nat} (hk:k<28):cs[cellJ k]?=some (.int .i64 (j.n k)):=by
 obtain ⟨a,c,a',c',rfl,-⟩:=h
 exact job_at _ _ _ _ _ _ hk
theorem JobA.one {w:World} {cs:List Value} {j:Jb} (h:JobA w cs j):cs.toArray.all (·.oneCell')=true:=by
 obtain ⟨a,c,a',c',rfl,-⟩:=h
 exact job_one _ _ _ _ _ _ _ _ _ _
theorem JobA.put {w:World} {cs:List Value} {j:Jb} (h:JobA w cs j) {k:Nat} (hk:k<28) (z:Int):JobA w (cs.set (cellJ k) (.int .i64 z)) { j with n:=setN j.n k z }:=by
 obtain ⟨a,c,a',c',rfl,h1,h2⟩:=h
 exact ⟨a,c,a',c',job_set _ _ _ _ _ _ hk z,h1,h2⟩
theorem JobF.put {base:Nat} {w:World} {cs:List Value} {j:Jb} (h:JobF base w cs j) {k:Nat} (hk:k<28) (z:Int):JobF base w (cs.set (cellJ k) (.int .i64 z)) { j with n:=setN j.n k z }:=by
 obtain ⟨a,c,a',c',rfl,h1,h2⟩:=h
 exact ⟨a,c,a',c',job_set _ _ _ _ _ _ hk z,h1,h2⟩
theorem infoJob:(Try.prog.info? 29).map (·.size)=some 33:=by kernel_rfl
section
variable {ops:Array Oper} {rest:List Oper} {o:Oper} {a:Act} {w:World} {Q:Exit→Act→World→Prop} {C:World→Prop} {K:Act→Prop}
theorem wpList_load_job (hg:o.guard=none) (x:Operand) (ho:o.op=.load 29 x) (b:Nat) (hx:a.eval x=.pointer (some ⟨b,0,none⟩)) (cs:List Value) (hb:Bx w b cs) (hl:cs.length=33)
  (h:wpList Try.prog ops Q rest (a.put o.dst (.agg cs.toArray)) w):wpList Try.prog ops Q (o :: rest) a w :=
 wpList_load_mid hg _ x ho b 0 hx cs _ hb.range Try.underlying29 rfl (by rw [hl];exact infoJob) h
theorem quiet_load_job (x:Operand) (ho:o.op=.load 29 x) (b:Nat) (hx:a.eval x=.pointer (some ⟨b,0,none⟩)) (cs:List Value) (hl:cs.length=33) (hS:∀ w,C w→w.rangeAt b 0 cs)
  (h:K (a.put o.dst (.agg cs.toArray))):o.quiet Try.prog a C K :=
 quiet_load_mid _ x ho b 0 hx cs _ hS Try.underlying29 rfl (by rw [hl];exact infoJob) h
theorem wpList_store_job (hg:o.guard=none) (x y:Operand) (ho:o.op=.store 29 x y) (b:Nat) (hx:a.eval x=.pointer (some ⟨b,0,none⟩)) (vs cs:List Value) (hy:a.eval y=.agg cs.toArray) (hb:Bx w b vs) (hv:vs.length=33) (hl:cs.length=33) (h1:cs.toArray.all (·.oneCell')=true)
  (h:wpList Try.prog ops Q rest (a.put o.dst undef) (w.setCells b 0 cs)):wpList Try.prog ops Q (o :: rest) a w :=
 wpList_store_mid hg _ x y ho b 0 cs.toArray hx hy (by have:=hb.present;rw [hv] at this;simpa [hl] using this) (by simpa [hl] using infoJob) h1 (by simpa using h)
end
end Go.Proofs.Ytabinmabggnhbaa
namespace Go.Proofs.Ytabinmabggnhbaa
open Go.RowKit
def enc (l:List Int):List Value:=l.map (Value.int .i64)
def Nums (w:World) (a:Option Addr) (l:List Int):Prop:=l=[]∨∃ b off,a=some ⟨b,off,none⟩∧∀ j x,l[j]?=some x→w.cell? ⟨b,off+j,none⟩=some (.int .i64 x)
theorem Nums.nil {w:World} {a:Option Addr}:Nums w a []:=.inl rfl
theorem Nums.up {w w':World} {a:Option Addr} {l:List Int} (h:Nums w a l) (hb:Below w.heap.size w w'):Nums w' a l:=by
 rcases h with h | ⟨b,off,e,h⟩
 ·exact .inl h
 ·exact .inr ⟨b,off,e,fun j x hx=>bl_cell hb (h j x hx)⟩
theorem Nums.take {w:World} {a:Option Addr} {l:List Int} (h:Nums w a l) (k:Nat):Nums w a (l.take k):=by
 rcases h with rfl | ⟨b,off,e,h⟩
 ·exact .inl (by simp)
 ·refine .inr ⟨b,off,e,fun j x hx=>h j x ?_⟩
  rw [List.getElem?_take] at hx
  split at hx
  ·exact hx
  ·cases hx
theorem Nums.drop {w:World} {b off:Nat} {l:List Int} (h:Nums w (some ⟨b,off,none⟩) l) (k:Nat):Nums w (some ⟨b,off+k,none⟩) (l.drop k):=by
 rcases h with rfl | ⟨b',off',e,h⟩
 ·exact .inl (by simp)
 ·cases e
  refine .inr ⟨b,off+k,rfl,fun j x hx=>?_⟩
  rw [List.getElem?_drop] at hx
  rw [Nat.add_assoc]
  exact h _ x hx
theorem Nums.cell {w:World} {a:Option Addr} {l:List Int} (h:Nums w a l) (hl:0<l.length):∃ b off,a=some ⟨b,off,none⟩∧∀ j x,l[j]?=some x→w.cell? ⟨b,off+j,none⟩=some (.int .i64 x):=by
 rcases h with rfl | h
 ·simp at hl
 ·exact h
theorem Nums.own {w:World} {base:Nat} {v:Value} {l:List Int} (h:w.ownsRow base 3 1 v l.length (enc l)):∃ a c,v=.slice a l.length c∧Nums w a l∧(∀ p,a=some p→p.block<w.heap.size∧base≤p.block):=by
 rcases h.2 with ⟨rfl,h0⟩ | ⟨g,cap,cur,rfl,hb,hg,hcap,hmax,hsz,htk⟩
 ·exact ⟨none,0,by rw [h0],.inl (List.eq_nil_of_length_eq_zero h0),fun p hp=>by cases hp⟩
 ·refine ⟨some ⟨g,0,none⟩,cap,rfl,.inr ⟨g,0,rfl,fun j x hx=>?_⟩,fun p hp=>by cases hp;exact ⟨(Array.getElem?_eq_some_iff.1 hg).1,hb⟩⟩
  have:=h.cells (g:=g) rfl j (.int .i64 x) (by simp [enc,hx])
  rwa [show (⟨g,0,none⟩:Addr).add j=⟨g,0+j,none⟩ by unfold Addr.add;split<;>simp_all] at this
def RowAt (w:World) (R:Nat) (v:Value) (l:List Int):Prop :=
 (v=.slice none 0 0∧l=[])∨∃ off c cur,v=.slice (some ⟨R,off,none⟩) l.length c∧w.heap[R]?=some (.cells cur 3 (0,0))∧l.length≤c∧c≤maxLen∧off+c≤cur.size∧∀ j x,l[j]?=some x→w.cell? ⟨R,off+j,none⟩=some (.int .i64 x)
theorem RowAt.kept {w w':World} {R:Nat} {v:Value} {l:List Int} (h:RowAt w R v l) (hb:R<w.heap.size→w'.heap[R]?=w.heap[R]?):RowAt w' R v l:=by
 rcases h with h | ⟨off,c,cur,hv,hc,h1,h2,h3,h4⟩
 ·exact .inl h
 ·have e:=hb (Array.getElem?_eq_some_iff.1 hc).1
  exact .inr ⟨off,c,cur,hv,e.trans hc,h1,h2,h3,fun j x hx=>(World.cell?_of_block (a:=⟨R,off+j,none⟩) e).trans (h4 j x hx)⟩
theorem RowAt.of {w:World} {base:Nat} {v:Value} {l:List Int} (h:w.ownsRow base 3 1 v l.length (enc l)) (D:Nat):∃ R,RowAt w R v l∧((v=.slice none 0 0∧R=D)∨(base≤R∧R<w.heap.size∧v≠.slice none 0 0)):=by
 obtain ⟨a,c,e,hn,_⟩:=Nums.own h
 rcases h.2 with ⟨rfl,h0⟩ | ⟨g,cap,cur,rfl,hb,hg,hcap,hmax,hsz,htk⟩
 ·exact ⟨D,.inl ⟨rfl,List.eq_nil_of_length_eq_zero h0⟩,.inl ⟨rfl,rfl⟩⟩
 ·refine ⟨g,.inr ⟨0,cap,cur,rfl,hg,hcap,hmax,by omega,?_⟩,.inr ⟨hb,(Array.getElem?_eq_some_iff.1 hg).1,by simp⟩⟩
  intro j x hx
  rcases hn with h0 | ⟨b,off,e1,h1⟩
  ·rw [h0] at hx;simp at hx
  ·cases e
   cases e1
   exact h1 j x hx
set_option maxRecDepth 100000 in
set_option maxHeartbeats 2000000 in
theorem refAll_any (cs:List Value) (n:Nat→Int) (w:World) (hv:∀ k,k<28→cs[cellJ k]?=some (.int .i64 (n k))) :
  Calls Try.prog 56 #[.agg cs.toArray] w fun e w'=>∃ g,e=.returned (.slice (some ⟨g,0,none⟩) 28 28)∧w.heap.size≤g∧Bx w' g (enc (numsL n))∧Below w.heap.size w w':=by
 have HB:=Lib.hid (up_alloc (Below.refl w.heap.size w) (.cells cs.toArray 29))
 have HX:=Bx.new w 29 cs
 have c0:(w.alloc (.cells cs.toArray 29)).cell? ⟨w.heap.size,1,none⟩=some (.int .i64 (n 0)):=HX.cell 1 (hv 0 (by decide))
 have c1:(w.alloc (.cells cs.toArray 29)).cell? ⟨w.heap.size,2,none⟩=some (.int .i64 (n 1)):=HX.cell 2 (hv 1 (by decide))
 have c2:(w.alloc (.cells cs.toArray 29)).cell? ⟨w.heap.size,3,none⟩=some (.int .i64 (n 2)):=HX.cell 3 (hv 2 (by decide))
 have c3:(w.alloc (.cells cs.toArray 29)).cell? ⟨w.heap.size,4,none⟩=some (.int .i64 (n 3)):=HX.cell 4 (hv 3 (by decide))
 have c4:(w.alloc (.cells cs.toArray 29)).cell? ⟨w.heap.size,5,none⟩=some (.int .i64 (n 4)):=HX.cell 5 (hv 4 (by decide))
 have c5:(w.alloc (.cells cs.toArray 29)).cell? ⟨w.heap.size,6,none⟩=some (.int .i64 (n 5)):=HX.cell 6 (hv 5 (by decide))
 have c6:(w.alloc (.cells cs.toArray 29)).cell? ⟨w.heap.size,7,none⟩=some (.int .i64 (n 6)):=HX.cell 7 (hv 6 (by decide))
 have c7:(w.alloc (.cells cs.toArray 29)).cell? ⟨w.heap.size,8,none⟩=some (.int .i64 (n 7)):=HX.cell 8 (hv 7 (by decide))
 have c8:(w.alloc (.cells cs.toArray 29)).cell? ⟨w.heap.size,9,none⟩=some (.int .i64 (n 8)):=HX.cell 9 (hv 8 (by decide))
 have c9:(w.alloc (.cells cs.toArray 29)).cell? ⟨w.heap.size,10,none⟩=some (.int .i64 (n 9)):=HX.cell 10 (hv 9 (by decide))
 have c10:(w.alloc (.cells cs.toArray 29)).cell? ⟨w.heap.size,11,none⟩=some (.int .i64 (n 10)):=HX.cell 11 (hv 10 (by decide))
 have c11:(w.alloc (.cells cs.toArray 29)).cell? ⟨w.heap.size,16,none⟩=some (.int .i64 (n 11)):=HX.cell 16 (hv 11 (by decide))
 have c12:(w.alloc (.cells cs.toArray 29)).cell? ⟨w.heap.size,17,none⟩=some (.int .i64 (n 12)):=HX.cell 17 (hv 12 (by decide))
 have c13:(w.alloc (.cells cs.toArray 29)).cell? ⟨w.heap.size,18,none⟩=some (.int .i64 (n 13)):=HX.cell 18 (hv 13 (by decide))
 have c14:(w.alloc (.cells cs.toArray 29)).cell? ⟨w.heap.size,19,none⟩=some (.int .i64 (n 14)):=HX.cell 19 (hv 14 (by decide))
 have c15:(w.alloc (.cells cs.toArray 29)).cell? ⟨w.heap.size,20,none⟩=some (.int .i64 (n 15)):=HX.cell 20 (hv 15 (by decide))
 have c16:(w.alloc (.cells cs.toArray 29)).cell? ⟨w.heap.size,21,none⟩=some (.int .i64 (n 16)):=HX.cell 21 (hv 16 (by decide))
 have c17:(w.alloc (.cells cs.toArray 29)).cell? ⟨w.heap.size,22,none⟩=some (.int .i64 (n 17)):=HX.cell 22 (hv 17 (by decide))
 have c18:(w.alloc (.cells cs.toArray 29)).cell? ⟨w.heap.size,23,none⟩=some (.int .i64 (n 18)):=HX.cell 23 (hv 18 (by decide))
 have c19:(w.alloc (.cells cs.toArray 29)).cell? ⟨w.heap.size,24,none⟩=some (.int .i64 (n 19)):=HX.cell 24 (hv 19 (by decide))
 have c20:(w.alloc (.cells cs.toArray 29)).cell? ⟨w.heap.size,25,none⟩=some (.int .i64 (n 20)):=HX.cell 25 (hv 20 (by decide))
 have c21:(w.alloc (.cells cs.toArray 29)).cell? ⟨w.heap.size,26,none⟩=some (.int .i64 (n 21)):=HX.cell 26 (hv 21 (by decide))
 have c22:(w.alloc (.cells cs.toArray 29)).cell? ⟨w.heap.size,27,none⟩=some (.int .i64 (n 22)):=HX.cell 27 (hv 22 (by decide))
 have c23:(w.alloc (.cells cs.toArray 29)).cell? ⟨w.heap.size,28,none⟩=some (.int .i64 (n 23)):=HX.cell 28 (hv 23 (by decide))
 have c24:(w.alloc (.cells cs.toArray 29)).cell? ⟨w.heap.size,29,none⟩=some (.int .i64 (n 24)):=HX.cell 29 (hv 24 (by decide))
 have c25:(w.alloc (.cells cs.toArray 29)).cell? ⟨w.heap.size,30,none⟩=some (.int .i64 (n 25)):=HX.cell 30 (hv 25 (by decide))
 have c26:(w.alloc (.cells cs.toArray 29)).cell? ⟨w.heap.size,31,none⟩=some (.int .i64 (n 26)):=HX.cell 31 (hv 26 (by decide))
 have c27:(w.alloc (.cells cs.toArray 29)).cell? ⟨w.heap.size,32,none⟩=some (.int .i64 (n 27)):=HX.cell 32 (hv 27 (by decide))
 clear HX hv
 have HZ:=Lib.hid (World.size_alloc w (.cells cs.toArray 29))
 generalize hw1:w.alloc (.cells cs.toArray 29)=w1 at *
 have HW:=Lib.hid hw1
 go_enter Try.func56,Try.ntmps56
 go_wp2
 go_ret
 exact ⟨w1.heap.size,rfl,by rw [HZ.out];omega,Bx.new w1 3 _,up_alloc HB.out _⟩
set_option maxRecDepth 100000 in
theorem refFrom_any (w:World):Calls Try.prog 57 #[] w fun e w'=>∃ g,e=.returned (.slice (some ⟨g,0,none⟩) 28 28)∧w.heap.size≤g∧Bx w' g (enc fromL)∧Below w.heap.size w w':=by
 go_enter Try.func57,Try.ntmps57
 go_wp2
 go_ret
 exact ⟨w.heap.size,rfl,Nat.le_refl _,Bx.new w 3 _,up_alloc (Below.refl _ _) _⟩
set_option maxRecDepth 100000 in
theorem refTo_any (w:World):Calls Try.prog 58 #[] w fun e w'=>∃ g,e=.returned (.slice (some ⟨g,0,none⟩) 28 28)∧w.heap.size≤g∧Bx w' g (enc toL)∧Below w.heap.size w w':=by
 go_enter Try.func58,Try.ntmps58
 go_wp2
 go_ret
 exact ⟨w.heap.size,rfl,Nat.le_refl _,Bx.new w 3 _,up_alloc (Below.refl _ _) _⟩
end Go.Proofs.Ytabinmabggnhbaa
namespace Go.Proofs.Ytabinmabggnhbaa
abbrev Tr:=Option Nat×List Nat×List Nat
def tripOf (ops:Array Oper) (o:Oper):Tr:=(o.dst,o.looksAt ops,(o.after.toList.filter (Region.binds .any)).map (·.on))
def apartT (t s:Tr):Bool :=
 (match t.1 with | some d=>!s.2.1.contains d&&s.1 != some d | none=>true)&&(match s.1 with | some d=>!t.2.1.contains d | none=>true)
def backQ:Nat→List Tr→Bool
 | _,[]=>true
 | k,t :: r=>t.2.2.all (fun j=>decide (j<k))&&backQ (k+1) r
def freeT:Nat→Nat→List Tr→Bool
 | 0,_,_=>true
 | _,_,[]=>true
 | f+1,k,t :: r=>r.all (fun s=>s.2.2.contains k || apartT t s)&&freeT f (k+1) r
def chainT:Nat→List Tr→Bool
 | _,[]=>true
 | k,t :: r=>t.2.2.contains (k-1)&&chainT (k+1) r
def sinkT (T:List Tr) (n:Nat):Bool:=(List.range n).all fun i=>T.any fun t=>t.2.2.contains i
def quickT (T:List Tr) (n:Nat):Bool:=decide (n<T.length)&&backQ 0 T&&freeT n 0 T&&sinkT (T.take (n+1)) n&&chainT (n+1) (T.drop (n+1))
def forceN {β:Type}:List Nat→(List Nat→β)→β
 | [],k=>k []
 | x :: xs,k=>forceN xs fun ys=>k (x :: ys)
theorem forceN_eq {β:Type} (l:List Nat) (k:List Nat→β):forceN l k=k l:=by
 induction l generalizing k with
 | nil=>rfl
 | cons x xs ih=>simp only [forceN,ih]
def forceT {β:Type}:List Tr→(List Tr→β)→β
 | [],k=>k []
 | x :: xs,k=>forceN x.2.1 fun a=>forceN x.2.2 fun b=>forceT xs fun ys=>k ((x.1,a,b) :: ys)
theorem forceT_eq {β:Type} (l:List Tr) (k:List Tr→β):forceT l k=k l:=by
 induction l generalizing k with
 | nil=>rfl
 | cons x xs ih=>simp only [forceT,forceN_eq,ih]
def quickB (l:List Oper) (n:Nat):Bool:=Region.noSelect l.toArray&&forceT (l.map (tripOf l.toArray)) fun T=>quickT T n
theorem backT_spec:∀ (T:List Tr) (k:Nat),backQ k T=true→∀ i t,T[i]?=some t→∀ j∈t.2.2,j<k+i
 | [],_,_,i,t,ht,_,_=>by simp at ht
 | t0 :: r,k,h,i,t,ht,j,hj=>by
  simp only [backQ,Bool.and_eq_true,List.all_eq_true,decide_eq_true_eq] at h
  cases i with
  | zero=>simp only [List.getElem?_cons_zero,Option.some.injEq] at ht;subst ht;exact h.1 j hj
  | succ i=>have:=backT_spec r (k+1) h.2 i t (by simpa using ht) j hj;omega
theorem freeT_spec:∀ (f:Nat) (T:List Tr) (k:Nat),freeT f k T=true→∀ i t,i<f→T[i]?=some t→∀ j s,i<j→T[j]?=some s→(s.2.2.contains (k+i) || apartT t s)=true
 | 0,_,_,_,i,_,hi,_,_,_,_,_=>by omega
 | f+1,[],_,_,i,t,_,ht,_,_,_,_=>by simp at ht
 | f+1,t0 :: r,k,h,i,t,hi,ht,j,s,hij,hs=>by
  simp only [freeT,Bool.and_eq_true,List.all_eq_true] at h
  obtain ⟨j,rfl⟩:∃ m,j=m+1:=⟨j-1,by omega⟩
  simp only [List.getElem?_cons_succ] at hs
  cases i with
  | zero =>
   simp only [List.getElem?_cons_zero,Option.some.injEq] at ht
   subst ht
   exact h.1 s (List.mem_of_getElem? hs)
  | succ i =>
   have:=freeT_spec f r (k+1) h.2 i t (by omega) (by simpa using ht) j s (by omega) hs
   rwa [show k+(i+1)=k+1+i by omega]
theorem chainT_spec:∀ (T:List Tr) (k:Nat),chainT k T=true→∀ (i:Nat) (t:Tr),T[i]?=some t→t.2.2.contains (k+i-1)=true
 | [],_,_,i,t,ht=>by simp at ht
 | t0 :: r,k,h,i,t,ht=>by
  simp only [chainT,Bool.and_eq_true] at h
  cases i with
  | zero=>simp only [List.getElem?_cons_zero,Option.some.injEq] at ht;subst ht;simpa using h.1
  | succ i =>
   have:=chainT_spec r (k+1) h.2 i t (by simpa using ht)
   rwa [show k+(i+1)-1=k+1+i-1 by omega]
section
variable {l:List Oper}
theorem trip_waits {o:Oper} {i:Nat}:(tripOf l.toArray o).2.2.contains i=true↔∃ e∈o.after,Region.binds .any e=true∧e.on=i:=by
 simp only [tripOf,List.contains_iff_mem,List.mem_map,List.mem_filter,Array.mem_toList_iff]
 exact ⟨fun ⟨e,⟨h1,h2⟩,h3⟩=>⟨e,h1,h2,h3⟩,fun ⟨e,h1,h2,h3⟩=>⟨e,⟨h1,h2⟩,h3⟩⟩
theorem trip_any {o:Oper} {i:Nat} (h:(tripOf l.toArray o).2.2.contains i=true):(o.after.any fun e=>Region.binds .any e&&e.on==i)=true:=by
 obtain ⟨e,he,hb,rfl⟩:=trip_waits.1 h
 exact Array.any_eq_true'.2 ⟨e,he,by simp [hb]⟩
theorem trip_at {i:Nat} {o:Oper} (h:l[i]?=some o):(l.map (tripOf l.toArray))[i]?=some (tripOf l.toArray o):=by
 rw [List.getElem?_map,h];rfl
def Upto (l:List Oper) (k:Nat) (s:Array Bool):Prop:=s.size=l.length∧∀ j,j<l.length→s[j]?=some (decide (j<k))
theorem Upto.getD {k:Nat} {s:Array Bool} (h:Upto l k s) {j:Nat} (hj:j<l.length) (b:Bool):s.getD j b=decide (j<k):=by
 rw [Array.getD_eq_getD_getElem?,h.2 j hj];rfl
theorem Upto.next {k:Nat} {s:Array Bool} (h:Upto l k s):Upto l (k+1) (s.setIfInBounds k true):=by
 refine ⟨by rw [Array.size_setIfInBounds];exact h.1,fun j hj=>?_⟩
 rw [Array.getElem?_setIfInBounds]
 by_cases e:k=j
 ·subst e
  have:k<s.size:=by rw [h.1];exact hj
  simp [this]
 ·rw [if_neg e,h.2 j hj]
  congr 1
  by_cases hk:j<k
  ·simp [hk];omega
  ·have h1:¬ j<k+1:=by omega
   simp [hk,h1]
theorem quick_ready {k:Nat} {s:Array Bool} (h:Upto l k s) {o:Oper} (ho:l[k]?=some o) (hb:∀ j∈(tripOf l.toArray o).2.2,j<k):k∈Region.ready .any l.toArray s:=by
 have hk:k<l.length:=(List.getElem?_eq_some_iff.1 ho).1
 rw [mem_ready]
 refine ⟨by rw [h.getD hk];simp,o,by simpa using ho,fun e he hbind=>?_⟩
 have hlt:e.on<k:=hb e.on (List.contains_iff_mem.1 (trip_waits.2 ⟨e,he,hbind,rfl⟩))
 rw [h.getD (by omega)]
 simpa using hlt
theorem quick_free {k:Nat} {s:Array Bool} (h:Upto l k s) {o:Oper} (ho:l[k]?=some o)
  (hf:∀ j p,k<j→l[j]?=some p→((tripOf l.toArray p).2.2.contains k || apartT (tripOf l.toArray o) (tripOf l.toArray p))=true):Region.free .any l.toArray s k=true:=by
 have ho':l.toArray[k]?=some o:=by simpa using ho
 unfold Region.free
 rw [ho']
 simp only [List.all_eq_true,List.mem_range,List.size_toArray]
 intro j hj
 by_cases e:j=k
 ·simp [e]
 ·by_cases hk:j<k
  ·rw [h.getD hj];simp [hk]
  ·have hp:l[j]?=some l[j]:=List.getElem?_eq_getElem hj
   have hp':l.toArray[j]?=some l[j]:=by simpa using hp
   have:=hf j _ (by omega) hp
   rw [hp']
   simp only [Bool.or_eq_true] at this ⊢
   rcases this with hw | ha
   ·exact .inr (.inl (trip_any hw))
   ·exact .inr (.inr ha)
end
theorem filter_one {n k:Nat} (p:Nat→Bool) (hk:k<n) (h:∀ j,j<n→(p j=true↔j=k)):(List.range n).filter p=[k]:=by
 have:(List.range n).filter p=(List.range n).filter (·==k):=by
  apply List.filter_congr
  intro j hj
  have:=h j (List.mem_range.1 hj)
  by_cases e:j=k
  ·simp [e,(h k hk).2 rfl]
  ·have:p j=false:=by cases hp:p j with | false=>rfl | true=>exact absurd (this.1 hp) e
   simp [this,e]
 rw [this,List.filter_beq,List.nodup_range.count,if_pos (List.mem_range.2 hk)]
 rfl
theorem lexTail_quick {l:List Oper} {n:Nat} (h:quickB l n=true):Region.lexTailB .any l.toArray n=true:=by
 simp only [quickB,forceT_eq,quickT,Bool.and_eq_true,decide_eq_true_eq,List.length_map] at h
 obtain ⟨hsel,⟨⟨⟨hn,hback⟩,hfree⟩,hsink⟩,hchain⟩:=h
 have Hb:∀ k o,l[k]?=some o→∀ j∈(tripOf l.toArray o).2.2,j<k:=fun k o ho j hj=>by
  have:=backT_spec _ 0 hback k _ (trip_at ho) j hj
  omega
 have Hf:∀ k o,k<n→l[k]?=some o→∀ j p,k<j→l[j]?=some p→((tripOf l.toArray p).2.2.contains k || apartT (tripOf l.toArray o) (tripOf l.toArray p))=true:=fun k o hk ho j p hj hp=>by
  have:=freeT_spec n _ 0 hfree k _ hk (trip_at ho) j _ hj (trip_at hp)
  rwa [Nat.zero_add] at this
 have Hc:∀ t o,n<t→l[t]?=some o→(tripOf l.toArray o).2.2.contains (t-1)=true:=fun t o ht ho=>by
  have:=chainT_spec _ (n+1) hchain (t-(n+1)) (tripOf l.toArray o) (by rw [List.getElem?_drop,show n+1+(t-(n+1))=t by omega];exact trip_at ho)
  rwa [show n+1+(t-(n+1))-1=t-1 by omega] at this
 have Hs:∀ i,i<n→∃ j o,i<j∧j≤n∧l[j]?=some o∧(tripOf l.toArray o).2.2.contains i=true:=fun i hi=>by
  simp only [sinkT,List.all_eq_true,List.mem_range,List.any_eq_true] at hsink
  obtain ⟨t,ht,hc⟩:=hsink i hi
  obtain ⟨j,hj⟩:=List.getElem?_of_mem ht
  rw [List.getElem?_take] at hj
  split at hj
  ·rename_i hjn
   rw [List.getElem?_map,Option.map_eq_some_iff] at hj
   obtain ⟨o,ho,rfl⟩:=hj
   exact ⟨j,o,Hb j o ho i (List.contains_iff_mem.1 hc),by omega,ho,hc⟩
  ·cases hj
 have hsz:l.toArray.size=l.length:=by simp
 simp only [Region.lexTailB,Bool.and_eq_true,decide_eq_true_eq]
 refine ⟨⟨⟨⟨hsel,by rw [hsz];exact hn⟩,?_⟩,?_⟩,?_⟩
 ·simp only [Region.sinkB,List.all_eq_true,List.mem_range,List.any_eq_true,Bool.and_eq_true,decide_eq_true_eq]
  intro i hi
  obtain ⟨j,o,hij,hjn,ho,hc⟩:=Hs i hi
  refine ⟨j,by omega,hij,?_⟩
  unfold Region.waitsFor
  rw [show l.toArray[j]?=some o by simpa using ho]
  exact trip_any hc
 ·simp only [Region.chainB,List.all_eq_true,List.mem_range,Bool.or_eq_true,decide_eq_true_eq]
  intro t ht
  by_cases hle:t≤n
  ·exact .inl hle
  ·right
   rw [hsz] at ht
   have ho:=List.getElem?_eq_getElem ht
   unfold Region.waitsFor
   rw [show l.toArray[t]?=some l[t] by simpa using ho]
   exact trip_any (Hc t _ (by omega) ho)
 ·have hseq:∀ g k s,Upto l k s→n≤k→k+g=l.length→Region.seqB .any l.toArray g k s=true:=by
   intro g
   induction g with
   | zero =>
    intro k s hu hk hg
    simp only [Region.seqB,List.isEmpty_iff]
    apply List.eq_nil_iff_forall_not_mem.2
    intro j hj
    obtain ⟨h1,o,ho,-⟩:=mem_ready.1 hj
    have hj':j<l.length:=by have:=(Array.getElem?_eq_some_iff.1 ho).1;simpa using this
    rw [hu.getD hj'] at h1
    simp only [decide_eq_false_iff_not] at h1
    omega
   | succ g ih =>
    intro k s hu hk hg
    simp only [Region.seqB,Bool.and_eq_true,decide_eq_true_eq]
    refine ⟨?_,ih (k+1) _ hu.next (by omega) (by omega)⟩
    have hkl:k<l.length:=by omega
    have hok:=List.getElem?_eq_getElem hkl
    unfold Region.ready
    rw [hsz]
    apply filter_one _ hkl
    intro j hj
    have e:(!s.getD j true&&((l.toArray[j]?).map (·.after.all fun e=>!Region.binds .any e || s.getD e.on false)).getD false)=true↔j∈Region.ready .any l.toArray s:=by
     unfold Region.ready
     rw [List.mem_filter,List.mem_range,hsz]
     exact ⟨fun h=>⟨hj,h⟩,fun h=>h.2⟩
    rw [e]
    constructor
    ·intro hr
     obtain ⟨h1,o,ho,h2⟩:=mem_ready.1 hr
     rw [hu.getD hj] at h1
     simp only [decide_eq_false_iff_not] at h1
     by_cases ejk:j=k
     ·exact ejk
     ·have hjo:l[j]?=some o:=by simpa using ho
      obtain ⟨x,hx,hbx,hon⟩:=trip_waits.1 (Hc j o (by omega) hjo)
      have h3:=h2 x hx hbx
      rw [hu.getD (by omega)] at h3
      simp only [decide_eq_true_eq] at h3
      omega
    ·rintro rfl
     exact quick_ready hu hok (Hb _ _ hok)
  have hhead:∀ f k s,Upto l k s→k+f=n→Region.lexHead .any l.toArray (l.length-n) f k s=true:=by
   intro f
   induction f with
   | zero =>
    intro k s hu hk
    simp only [Region.lexHead]
    exact hseq _ k s hu (by omega) (by omega)
   | succ f ih =>
    intro k s hu hk
    have hkl:k<l.length:=by omega
    have hok:=List.getElem?_eq_getElem hkl
    simp only [Region.lexHead,Bool.and_eq_true]
    exact ⟨⟨List.contains_iff_mem.2 (quick_ready hu hok (Hb _ _ hok)),quick_free hu hok (fun j p hj hp=>Hf k _ (by omega) hok j p hj hp)⟩,ih (k+1) _ hu.next (by omega)⟩
  rw [hsz]
  exact hhead n 0 _ ⟨by simp,fun j hj=>by simp [hj]⟩ (by omega)
end Go.Proofs.Ytabinmabggnhbaa
namespace Go.Proofs.Ytabinmabggnhbaa
open Go.RowKit
def isAlloc (o:Oper):Bool:=match o.op with | .alloc _=>true | _=>false
def dstAt (l:List Oper) (i:Nat):Option Tmp:=(l[i]?).bind (·.dst)
def headOk (l:List Oper) (n N:Nat):Bool :=
 (List.range n).all fun i=>match l[i]? with
  | none=>false
  | some o=>(match o.dst with
    | none=>false
    | some d=>decide (d<N)&&(List.range n).all fun j=>j==i || dstAt l j != some d) &&
   (!(isAlloc o) || o.guard.isNone)&&(o.after.all fun e=>!Region.binds .any e || decide (e.on<i)) &&
   ((List.range n).all fun j=>match l[j]? with
    | none=>false
    | some oj=>match oj.dst with
     | none=>false
     | some d=>!(o.looksAt l.toArray).contains d || (decide (j<i)&&!(isAlloc oj)&&o.after.any fun e=>Region.binds .any e&&e.on==j))
theorem headOk_spec {l:List Oper} {n N:Nat} (h:headOk l n N=true) (i:Nat) (hi:i<n) :
  ∃ o d,l[i]?=some o∧o.dst=some d∧d<N∧(∀ j,j<n→j≠i→dstAt l j≠some d)∧(isAlloc o=true→o.guard=none)∧(∀ e∈o.after,Region.binds .any e=true→e.on<i) ∧
   ∀ j,j<n→∀ oj d',l[j]?=some oj→oj.dst=some d'→d'∈o.looksAt l.toArray→j<i∧isAlloc oj=false∧∃ e∈o.after,Region.binds .any e=true∧e.on=j:=by
 have h0:=List.all_eq_true.1 h i (List.mem_range.2 hi)
 cases ho:l[i]? with
 | none=>rw [ho] at h0;cases h0
 | some o =>
  rw [ho] at h0
  simp only [Bool.and_eq_true] at h0
  obtain ⟨⟨⟨h1,h2⟩,h3⟩,h4⟩:=h0
  cases hd:o.dst with
  | none=>rw [hd] at h1;cases h1
  | some d =>
   rw [hd] at h1
   simp only [Bool.and_eq_true,decide_eq_true_eq] at h1
   refine ⟨o,d,rfl,hd,h1.1,fun j hj hji=>?_,fun ha=>?_,fun e he hb=>?_,fun j hj oj d' hoj hd' hm=>?_⟩
   ·have:=List.all_eq_true.1 h1.2 j (List.mem_range.2 hj)
    simpa [hji] using this
   ·simp only [ha,Bool.not_true,Bool.false_or,Option.isNone_iff_eq_none] at h2
    exact h2
   ·have:=Array.all_eq_true_iff_forall_mem.1 h3 e he
    simpa [hb] using this
   ·have:=List.all_eq_true.1 h4 j (List.mem_range.2 hj)
    rw [hoj] at this
    simp only [hd'] at this
    have hc:(o.looksAt l.toArray).contains d'=true:=by simpa using hm
    rw [hc] at this
    simp only [Bool.not_true,Bool.false_or,Bool.and_eq_true,decide_eq_true_eq,Bool.not_eq_true'] at this
    obtain ⟨⟨k1,k2⟩,k3⟩:=this
    obtain ⟨e,he,hb⟩:=Array.any_eq_true'.1 k3
    simp only [Bool.and_eq_true,beq_iff_eq] at hb
    exact ⟨k1,k2,e,he,hb.1,hb.2⟩
theorem exec_same {ops:Array Oper} {a a':Act} (o:Oper) (hs:∀ cs b,o.op≠.select cs b) (h:∀ t∈o.looksAt ops,a.tmps[t]?=a'.tmps[t]?):execOp a.eval o=execOp a'.eval o :=
 execOp_congr o hs fun x hx=>by
  cases x with
  | tmp t =>
   have:=h t (List.mem_append_left _ (List.mem_filterMap.2 ⟨.tmp t,by simpa using hx,rfl⟩))
   simp [Act.eval,this]
  | _=>rfl
theorem wanted_same {ops:Array Oper} {a a':Act} (o:Oper) (h:∀ t∈o.looksAt ops,a.tmps[t]?=a'.tmps[t]?):Region.wanted o (yielded ops a.tmps)=Region.wanted o (yielded ops a'.tmps):=by
 unfold Region.wanted
 cases hg:o.guard with
 | none=>rfl
 | some gw =>
  obtain ⟨g,want⟩:=gw
  have hy:yielded ops a.tmps g=yielded ops a'.tmps g:=by
   unfold yielded
   cases ht:(ops[g]?).bind (·.dst) with
   | none=>rfl
   | some t =>
    have:=h t (by simp [Oper.looksAt,hg,ht])
    simp [this]
  simp only [hy]
section
variable {P:Program} {ops:Array Oper} {C:World→Prop} {aF:Act}
theorem walk_keeps:∀ (L:List Oper) (a:Act),wpQuiet P ops C (fun a'=>a'=aF) L a→aF.tmps.size=a.tmps.size∧aF.defers=a.defers∧∀ t,(∀ o∈L,o.dst≠some t)→aF.tmps[t]?=a.tmps[t]?:=by
 intro L
 induction L with
 | nil=>intro a h;obtain rfl:a=aF:=h;exact ⟨rfl,rfl,fun _ _=>rfl⟩
 | cons o L ih =>
  intro a h
  have hv:∃ v,wpQuiet P ops C (fun a'=>a'=aF) L (a.put o.dst v):=by
   unfold wpQuiet at h
   split at h
   ·obtain ⟨v,_,h⟩:=h;exact ⟨v,h⟩
   ·exact ⟨_,h⟩
  obtain ⟨v,hv⟩:=hv
  obtain ⟨h1,h2,h3⟩:=ih _ hv
  refine ⟨h1.trans (by cases o.dst<;>simp [Act.put]),h2.trans (by cases o.dst<;>simp [Act.put]),fun t ht=>(h3 t fun o' ho'=>ht o' (List.mem_cons_of_mem _ ho')).trans ?_⟩
  have hne:=ht o List.mem_cons_self
  cases hd:o.dst with
  | none=>rfl
  | some d =>
   have:d≠t:=fun e=>hne (by rw [hd,e])
   simp [Act.put,Array.getElem?_setIfInBounds_ne this]
theorem walk_at:∀ (L:List Oper) (a:Act),wpQuiet P ops C (fun a'=>a'=aF) (L.filter fun o=>!isAlloc o) a →
  (∀ (i j:Nat) (oi oj:Oper) (t:Tmp),L[i]?=some oi→L[j]?=some oj→oi.dst=some t→oj.dst=some t→i=j) →
  ∀ (k:Nat) (o:Oper) (d:Tmp),L[k]?=some o→isAlloc o=false→o.dst=some d→d<a.tmps.size →
  ∃ act:Act,(∀ (j:Nat) (oj:Oper) (t:Tmp),j<k→L[j]?=some oj→isAlloc oj=false→oj.dst=some t→act.tmps[t]?=aF.tmps[t]?) ∧
   (∀ (t:Tmp),(∀ (j:Nat) (oj:Oper),j<k→L[j]?=some oj→isAlloc oj=false→oj.dst≠some t)→act.tmps[t]?=a.tmps[t]?) ∧
   ∃ v,aF.tmps[d]?=some v∧((Region.wanted o (yielded ops act.tmps)=true∧∀ w,C w→o.quietAt P act C w v)∨(Region.wanted o (yielded ops act.tmps)=false∧v=undef)):=by
 intro L
 induction L with
 | nil=>intro a _ _ k o d hk;simp at hk
 | cons o0 L ih =>
  intro a h hdis k o d hk ha hd hlt
  have hdis':∀ (i j:Nat) (oi oj:Oper) (t:Tmp),L[i]?=some oi→L[j]?=some oj→oi.dst=some t→oj.dst=some t→i=j:=fun i j oi oj t h1 h2 h3 h4=>by
   have:=hdis (i+1) (j+1) oi oj t (by simpa using h1) (by simpa using h2) h3 h4
   omega
  cases h0:isAlloc o0 with
  | true =>
   rw [List.filter_cons_of_neg (by simp [h0])] at h
   cases k with
   | zero =>
    simp at hk
    subst hk
    rw [h0] at ha
    cases ha
   | succ k =>
    obtain ⟨act,q1,q2,q3⟩:=ih a h hdis' k o d (by simpa using hk) ha hd hlt
    refine ⟨act,fun j oj t hj hoj hja hjd=>?_,fun t ht=>q2 t fun j oj hj hoj hja=>ht (j+1) oj (by omega) (by simpa using hoj) hja,q3⟩
    cases j with
    | zero=>simp at hoj;subst hoj;rw [h0] at hja;cases hja
    | succ j=>exact q1 j oj t (by omega) (by simpa using hoj) hja hjd
  | false =>
   rw [List.filter_cons_of_pos (by simp [h0])] at h
   have hv:∃ v,((Region.wanted o0 (yielded ops a.tmps)=true∧∀ w,C w→o0.quietAt P a C w v)∨(Region.wanted o0 (yielded ops a.tmps)=false∧v=undef))∧wpQuiet P ops C (fun a'=>a'=aF) (L.filter fun o=>!isAlloc o) (a.put o0.dst v):=by
    unfold wpQuiet at h
    split at h
    ·rename_i hw;obtain ⟨v,h1,h2⟩:=h;exact ⟨v,.inl ⟨hw,h1⟩,h2⟩
    ·rename_i hw;exact ⟨_,.inr ⟨by simpa using hw,rfl⟩,h⟩
   obtain ⟨v,hy,hrest⟩:=hv
   obtain ⟨z1,_,z3⟩:=walk_keeps _ _ hrest
   have later:∀ t,o0.dst=some t→∀ o'∈L.filter (fun o=>!isAlloc o),o'.dst≠some t:=fun t ht o' ho' hd'=>by
    obtain ⟨j,hj⟩:=List.getElem?_of_mem (List.mem_filter.1 ho').1
    have:=hdis 0 (j+1) o0 o' t (by simp) (by simpa using hj) ht hd'
    omega
   have fill:∀ t,o0.dst=some t→t<a.tmps.size→aF.tmps[t]?=some v:=fun t ht hs=>by
    rw [z3 t (later t ht)]
    simp [Act.put,ht,hs]
   cases k with
   | zero =>
    simp at hk
    subst hk
    exact ⟨a,fun j _ _ hj=>absurd hj (by omega),fun _ _=>rfl,v,fill d hd hlt,hy⟩
   | succ k =>
    have hsz:(a.put o0.dst v).tmps.size=a.tmps.size:=by cases o0.dst<;>simp [Act.put]
    obtain ⟨act,q1,q2,q3⟩:=ih _ hrest hdis' k o d (by simpa using hk) ha hd (by rw [hsz];exact hlt)
    refine ⟨act,fun j oj t hj hoj hja hjd=>?_,fun t ht=>?_,q3⟩
    ·cases j with
     | zero =>
      simp at hoj
      subst hoj
      rw [q2 t fun j oj hj hoj hja hd'=>?_,z3 t (later t hjd)]
      have:=hdis 0 (j+1) o0 oj t (by simp) (by simpa using hoj) hjd hd'
      omega
     | succ j=>exact q1 j oj t (by omega) (by simpa using hoj) hja hjd
    ·rw [q2 t fun j oj hj hoj hja=>ht (j+1) oj (by omega) (by simpa using hoj) hja]
     have hne:=ht 0 o0 (by omega) (by simp) h0
     cases hd0:o0.dst with
     | none=>rfl
     | some d0 =>
      have:d0≠t:=fun e=>hne (by rw [hd0,e])
      simp [Act.put,Array.getElem?_setIfInBounds_ne this]
end
theorem Bx.upTo {w w':World} {B:Nat} {vs:List Value} (h:Bx w B vs) (hlt:B<w.heap.size) (hb:Below w.heap.size w w'):Bx w' B vs :=
 ⟨fun j v hj=>bl_cell hb (h.1 j v hj),fun j=>(kept_marks hb B j hlt).trans (h.2 j)⟩
def puts (gf:Nat→Nat):List (Nat×Tmp)→Act→Act
 | [],a=>a
 | x :: r,a=>puts gf r (a.put (some x.2) (.pointer (some ⟨gf x.1,0,none⟩)))
theorem puts_same (gf:Nat→Nat):∀ (al:List (Nat×Tmp)) (a:Act),(puts gf al a).tmps.size=a.tmps.size∧(puts gf al a).defers=a.defers∧∀ t,(∀ x∈al,x.2≠t)→(puts gf al a).tmps[t]?=a.tmps[t]?:=by
 intro al
 induction al with
 | nil=>intro a;exact ⟨rfl,rfl,fun _ _=>rfl⟩
 | cons x r ih =>
  intro a
  obtain ⟨h1,h2,h3⟩:=ih (a.put (some x.2) (.pointer (some ⟨gf x.1,0,none⟩)))
  refine ⟨h1.trans (by simp [Act.put]),h2.trans rfl,fun t ht=>(h3 t fun y hy=>ht y (List.mem_cons_of_mem _ hy)).trans ?_⟩
  simp [Act.put,Array.getElem?_setIfInBounds_ne (ht x List.mem_cons_self)]
theorem puts_at (gf:Nat→Nat):∀ (al:List (Nat×Tmp)) (a:Act),(al.map (·.2)).Nodup→∀ x∈al,x.2<a.tmps.size→(puts gf al a).tmps[x.2]?=some (.pointer (some ⟨gf x.1,0,none⟩)):=by
 intro al
 induction al with
 | nil=>intro a _ x hx;cases hx
 | cons y r ih =>
  intro a hnd x hx hlt
  simp only [List.map_cons,List.nodup_cons] at hnd
  rcases List.mem_cons.1 hx with rfl | hx
  ·show (puts gf r _).tmps[x.2]?=_
   rw [(puts_same gf r _).2.2 x.2 fun z hz e=>hnd.1 (e ▸ List.mem_map_of_mem hz)]
   simp [Act.put,hlt]
  ·exact ih _ hnd.2 x hx (by simpa [Act.put] using hlt)
def boxesOk (l:List Oper) (n:Nat) (al:List (Nat×Tmp)) (ts:List TypeId):Bool :=
 (al.all fun x=>decide (x.1<n)&&(match l[x.1]? with | some o=>isAlloc o&&o.dst==some x.2 | none=>false)) &&
 ((List.range n).all fun i=>match l[i]? with | some o=>(match o.op with | .alloc t=>ts.contains t&&al.any (fun x=>x.1==i) | _=>true) | none=>false) &&
 decide ((al.map (·.2)).Nodup)
def anyOk (l:List Oper) (n N:Nat) (al:List (Nat×Tmp)) (ts:List TypeId):Bool :=
 Region.noSelect l.toArray&&decide (n<l.length)&&Region.sinkB .any l.toArray n&&Region.chainB .any l.toArray n &&
 Region.seqB .any l.toArray (l.length-n) n (List.replicate n true++List.replicate (l.length-n) false).toArray&&headOk l n N&&boxesOk l n al ts
structure Under (l:List Oper) (n:Nat) (Z:TypeId→List Value) (a0 aF:Act) (w1:World) (s:Array Bool) (a:Act) (w:World):Prop where
 head:HeadInv .any l.toArray n s
 size:a.tmps.size=a0.tmps.size
 defers:a.defers=a0.defers
 fill:∀ (i:Nat) (o:Oper) (t:Tmp),i<n→s.getD i false=true→l[i]?=some o→isAlloc o=false→o.dst=some t→a.tmps[t]?=aF.tmps[t]?
 rest:∀ t:Tmp,(∀ (i:Nat) (o:Oper),i<n→s.getD i false=true→l[i]?=some o→o.dst≠some t)→a.tmps[t]?=a0.tmps[t]?
 up:Below w1.heap.size w1 w
 boxes:∃ gf:Nat→Nat,∀ (i:Nat) (o:Oper) (d:Tmp) (t:TypeId),i<n→s.getD i false=true→l[i]?=some o→o.op=.alloc t→o.dst=some d →
  a.tmps[d]?=some (.pointer (some ⟨gf i,0,none⟩))∧w1.heap.size≤gf i∧gf i<w.heap.size∧Bx w (gf i) (Z t)∧∀ (j:Nat) (oj:Oper) (tj:TypeId),j<n→s.getD j false=true→l[j]?=some oj→oj.op=.alloc tj→j≠i→gf j≠gf i
theorem set_listed {s:Array Bool} {i j:Nat} (h:(s.setIfInBounds i true).getD j false=true) (hne:j≠i):s.getD j false=true:=by rwa [getD_set_ne false (Ne.symm hne)] at h
theorem Under.quiet {l:List Oper} {n N:Nat} {Z:TypeId→List Value} {a0 aF a:Act} {w1 w w':World} {s:Array Bool} (I:Under l n Z a0 aF w1 s a w) (hok:headOk l n N=true) {i:Nat} {o:Oper} {d:Tmp} {v:Value} (hi:i<n)
  (ho:l[i]?=some o) (ha:isAlloc o=false) (hd:o.dst=some d) (hr:i∈Region.ready .any l.toArray s) (hlt:d<a0.tmps.size) (hv:aF.tmps[d]?=some v) (hb:Below w.heap.size w w') :
  Under l n Z a0 aF w1 (s.setIfInBounds i true) (a.put o.dst v) w':=by
 obtain ⟨o',d',ho',hd',_,hdis,_,_,_⟩:=headOk_spec hok i hi
 obtain rfl:o'=o:=Option.some.inj (ho'.symm.trans ho)
 obtain rfl:d'=d:=Option.some.inj (hd'.symm.trans hd)
 have other:∀ (j:Nat) (oj:Oper),j<n→l[j]?=some oj→j≠i→∀ t,oj.dst=some t→d'≠t:=fun j oj hj hoj hji t ht e=>hdis j hj hji (by subst e;simp [dstAt,hoj,ht])
 have putNe:∀ t,d'≠t→(a.put o'.dst v).tmps[t]?=a.tmps[t]?:=fun t ht=>by rw [hd];simp [Act.put,Array.getElem?_setIfInBounds_ne ht]
 have putAt:(a.put o'.dst v).tmps[d']?=some v:=by rw [hd];simp [Act.put,I.size,hlt]
 refine ⟨I.head.set hr hi,by rw [hd];simp [Act.put,I.size],by rw [hd];simp [Act.put,I.defers],fun j oj t hj hl hoj hja hjd=>?_,fun t ht=>?_,up_trans I.up hb,?_⟩
 ·by_cases e:j=i
  ·subst e
   obtain rfl:oj=o':=Option.some.inj (hoj.symm.trans ho)
   obtain rfl:t=d':=Option.some.inj (hjd.symm.trans hd)
   rw [putAt,hv]
  ·rw [putNe t (other j oj hj hoj e t hjd)]
   exact I.fill j oj t hj (set_listed hl e) hoj hja hjd
 ·have hsi:(s.setIfInBounds i true).getD i false=true:=by
   have:i<s.size:=by rw [I.head.size];exact (List.getElem?_eq_some_iff.1 ho).1
   simp [this]
  rw [putNe t fun e=>ht i o' hi hsi ho (by rw [hd,e])]
  exact I.rest t fun j oj hj hl hoj=>ht j oj hj (getD_set_true hl) hoj
 ·obtain ⟨gf,hg⟩:=I.boxes
  refine ⟨gf,fun j oj dj t hj hl hoj hop hjd=>?_⟩
  have hja:isAlloc oj=true:=by simp [isAlloc,hop]
  have e:j≠i:=fun e=>by
   subst e
   obtain rfl:oj=o':=Option.some.inj (hoj.symm.trans ho)
   rw [hja] at ha;cases ha
  obtain ⟨g1,g2,g3,g4,g5⟩:=hg j oj dj t hj (set_listed hl e) hoj hop hjd
  refine ⟨by rw [putNe dj (other j oj hj hoj e dj hjd)];exact g1,g2,Nat.lt_of_lt_of_le g3 hb.size,g4.upTo g3 hb,fun k ok tk hk hkl hok' hkop hkj=>?_⟩
  have e':k≠i:=fun e=>by
   subst e
   obtain rfl:ok=o':=Option.some.inj (hok'.symm.trans ho)
   have:isAlloc ok=true:=by simp [isAlloc,hkop]
   rw [this] at ha;cases ha
  exact g5 k ok tk hk (set_listed hkl e') hok' hkop hkj
theorem Under.box {l:List Oper} {n N:Nat} {Z:TypeId→List Value} {a0 aF a:Act} {w1 w:World} {s:Array Bool} (I:Under l n Z a0 aF w1 s a w) (hok:headOk l n N=true) {i:Nat} {o:Oper} {d:Tmp} {t:TypeId} (hi:i<n)
  (ho:l[i]?=some o) (ha:o.op=.alloc t) (hd:o.dst=some d) (hr:i∈Region.ready .any l.toArray s) (hlt:d<a0.tmps.size) :
  Under l n Z a0 aF w1 (s.setIfInBounds i true) (a.put o.dst (.pointer (some ⟨w.heap.size,0,none⟩))) (w.alloc (.cells (Z t).toArray t)):=by
 obtain ⟨o',d',ho',hd',_,hdis,_,_,_⟩:=headOk_spec hok i hi
 obtain rfl:o'=o:=Option.some.inj (ho'.symm.trans ho)
 obtain rfl:d'=d:=Option.some.inj (hd'.symm.trans hd)
 have hal:isAlloc o'=true:=by simp [isAlloc,ha]
 have hb:Below w.heap.size w (w.alloc (.cells (Z t).toArray t)):=up_alloc (Below.refl _ _) _
 have other:∀ (j:Nat) (oj:Oper),j<n→l[j]?=some oj→j≠i→∀ t,oj.dst=some t→d'≠t:=fun j oj hj hoj hji t ht e=>hdis j hj hji (by subst e;simp [dstAt,hoj,ht])
 have putNe:∀ v t,d'≠t→(a.put o'.dst v).tmps[t]?=a.tmps[t]?:=fun v t ht=>by rw [hd];simp [Act.put,Array.getElem?_setIfInBounds_ne ht]
 have putAt:∀ v,(a.put o'.dst v).tmps[d']?=some v:=fun v=>by rw [hd];simp [Act.put,I.size,hlt]
 refine ⟨I.head.set hr hi,by rw [hd];simp [Act.put,I.size],by rw [hd];simp [Act.put,I.defers],fun j oj t hj hl hoj hja hjd=>?_,fun t ht=>?_,up_trans I.up hb,?_⟩
 ·have e:j≠i:=fun e=>by
   subst e
   obtain rfl:oj=o':=Option.some.inj (hoj.symm.trans ho)
   rw [hal] at hja;cases hja
  rw [putNe _ t (other j oj hj hoj e t hjd)]
  exact I.fill j oj t hj (set_listed hl e) hoj hja hjd
 ·have hsi:(s.setIfInBounds i true).getD i false=true:=by
   have:i<s.size:=by rw [I.head.size];exact (List.getElem?_eq_some_iff.1 ho).1
   simp [this]
  rw [putNe _ t fun e=>ht i o' hi hsi ho (by rw [hd,e])]
  exact I.rest t fun j oj hj hl hoj=>ht j oj hj (getD_set_true hl) hoj
 ·obtain ⟨gf,hg⟩:=I.boxes
  refine ⟨fun k=>if k=i then w.heap.size else gf k,fun j oj dj tj hj hl hoj hop hjd=>?_⟩
  by_cases e:j=i
  ·subst e
   obtain rfl:oj=o':=Option.some.inj (hoj.symm.trans ho)
   obtain rfl:dj=d':=Option.some.inj (hjd.symm.trans hd)
   obtain rfl:tj=t:=by rw [ha] at hop;injection hop with hop;exact hop.symm
   simp only [if_true]
   refine ⟨putAt _,I.up.size,by simp,Bx.new w tj (Z tj),fun k ok tk hk hkl hok' hkop hkj=>?_⟩
   rw [if_neg hkj]
   cases hkd:ok.dst with
   | none =>
    obtain ⟨o2,d2,h2,h3,_⟩:=headOk_spec hok k hk
    obtain rfl:o2=ok:=Option.some.inj (h2.symm.trans hok')
    rw [hkd] at h3;cases h3
   | some dk =>
    have:=(hg k ok dk tk hk (set_listed hkl hkj) hok' hkop hkd).2.2.1
    omega
  ·obtain ⟨g1,g2,g3,g4,g5⟩:=hg j oj dj tj hj (set_listed hl e) hoj hop hjd
   simp only [if_neg e]
   refine ⟨by rw [putNe _ dj (other j oj hj hoj e dj hjd)];exact g1,g2,Nat.lt_of_lt_of_le g3 hb.size,g4.upTo g3 hb,fun k ok tk hk hkl hok' hkop hkj=>?_⟩
   by_cases e':k=i
   ·subst e';simp only [if_true];omega
   ·rw [if_neg e'];exact g5 k ok tk hk (set_listed hkl e') hok' hkop hkj
theorem count_less {p q:Nat→Bool} {i:Nat} (hp:p i=true) (hq:q i=false) (hpq:∀ j,j≠i→q j=p j):∀ L:List Nat,L.Nodup→i∈L→L.countP p=L.countP q+1:=by
 intro L
 induction L with
 | nil=>intro _ h;cases h
 | cons x L ih =>
  intro hn hi
  rw [List.nodup_cons] at hn
  by_cases e:x=i
  ·subst e
   rw [List.countP_cons_of_pos hp,List.countP_cons_of_neg (by simp [hq])]
   congr 1
   exact List.countP_congr fun y hy=>by rw [hpq y fun e=>hn.1 (e ▸ hy)]
  ·have hm:i∈L:=(List.mem_cons.1 hi).resolve_left fun h=>e h.symm
   have:=ih hn.2 hm
   rw [List.countP_cons,List.countP_cons,hpq x e,this]
   omega
theorem least_unlisted (s:Array Bool):∀ m:Nat,(∀ j,j<m→s.getD j false=true)∨∃ i,i<m∧s.getD i false=false∧∀ j,j<i→s.getD j false=true:=by
 intro m
 induction m with
 | zero=>exact .inl fun j hj=>absurd hj (by omega)
 | succ m ih =>
  rcases ih with h | ⟨i,h1,h2,h3⟩
  ·cases e:s.getD m false with
   | true=>exact .inl fun j hj=>(Nat.lt_or_eq_of_le (Nat.le_of_lt_succ hj)).elim (h j) fun e'=>e' ▸ e
   | false=>exact .inr ⟨m,by omega,e,h⟩
  ·exact .inr ⟨i,by omega,h2,h3⟩
theorem under_wp {P:Program} {l:List Oper} {n N:Nat} {al:List (Nat×Tmp)} {ts:List TypeId} {Z:TypeId→List Value} {a0 aF:Act} {w1:World} {Q:Exit→Act→World→Prop} (hB:anyOk l n N al ts=true) (hN:a0.tmps.size=N)
  (hwalk:∀ v0:World,Below w1.heap.size w1 v0→wpQuiet P l.toArray (fun w'=>∃ u:Later v0,w'=u.now) (fun a'=>a'=aF) ((l.take n).filter fun o=>!isAlloc o) a0)
  (hz:∀ t∈ts,∀ (o:Oper) (ρ:Operand→Value) (w:World),o.op=.alloc t→(execOp ρ o).run P w=.ok (.value (.pointer (some ⟨w.heap.size,0,none⟩))) (w.alloc (.cells (Z t).toArray t)))
  (htail:∀ (gf:Nat→Nat) (w':World),Below w1.heap.size w1 w'→(∀ x∈al,∀ (o:Oper) (t:TypeId),l[x.1]?=some o→o.op=.alloc t→w1.heap.size≤gf x.1∧Bx w' (gf x.1) (Z t)) →
   (∀ x∈al,∀ y∈al,x.1≠y.1→gf x.1≠gf y.1)→wpList P l.toArray Q (l.drop n) (puts gf al aF) w') :
  ∀ (f:Nat) (s:Array Bool) (a:Act) (w:World),Under l n Z a0 aF w1 s a w→(List.range n).countP (fun i=>!s.getD i false)=f→wpAny P .any l.toArray Q (f+(l.length-n)) s a w:=by
 simp only [anyOk,boxesOk,Bool.and_eq_true,decide_eq_true_eq] at hB
 obtain ⟨⟨⟨⟨⟨⟨hsel,hn⟩,hs⟩,hc⟩,hseq⟩,hok⟩,⟨hal1,hal2⟩,hnd⟩:=hB
 have hbox:∀ x∈al,x.1<n∧∃ o t,l[x.1]?=some o∧o.op=.alloc t∧o.dst=some x.2:=fun x hx=>by
  have:=List.all_eq_true.1 hal1 x hx
  simp only [Bool.and_eq_true,decide_eq_true_eq] at this
  refine ⟨this.1,?_⟩
  have h2:=this.2
  cases ho:l[x.1]? with
  | none=>rw [ho] at h2;cases h2
  | some o =>
   rw [ho] at h2
   simp only [Bool.and_eq_true,beq_iff_eq] at h2
   have h3:=h2.1
   unfold isAlloc at h3
   split at h3
   ·rename_i t ht;exact ⟨o,t,rfl,ht,h2.2⟩
   ·cases h3
 have hcov:∀ (i:Nat) (o:Oper) (t:TypeId),i<n→l[i]?=some o→o.op=.alloc t→t∈ts∧∃ x∈al,x.1=i:=fun i o t hi ho ht=>by
  have:=List.all_eq_true.1 hal2 i (List.mem_range.2 hi)
  rw [ho] at this
  simp only [ht,Bool.and_eq_true] at this
  obtain ⟨h1,h2⟩:=this
  obtain ⟨x,hx,hxi⟩:=List.any_eq_true.1 h2
  exact ⟨by simpa using h1,x,hx,by simpa using hxi⟩
 obtain ⟨zF1,zF2,zF3⟩:=walk_keeps _ _ (hwalk w1 (Below.refl _ _))
 intro f
 induction f with
 | zero =>
  intro s a w I hcount
  have hall:∀ i,i<n→s.getD i false=true:=fun i hi=>by
   have:=List.countP_eq_zero.1 hcount i (List.mem_range.2 hi)
   simpa using this
  obtain ⟨gf,hg⟩:=I.boxes
  have hsz:s.size=l.length:=by rw [I.head.size];simp
  have es:s=(List.replicate n true++List.replicate (l.length-n) false).toArray:=by
   refine Array.ext (by simp [hsz];omega) fun i h1 h2=>?_
   by_cases hi:i<n
   ·have:=hall i hi
    simp [h1] at this
    simp [hi,this]
   ·have:=I.head.tail i (by omega) (by simpa [hsz] using h1)
    simp [h1] at this
    simp [List.getElem_append,hi,this]
  have ea:a=puts gf al aF:=by
   obtain ⟨p1,p2,p3⟩:=puts_same gf al aF
   have et:a.tmps=(puts gf al aF).tmps:=by
    refine Array.ext_getElem? fun t=>?_
    by_cases hx:∃ x∈al,x.2=t
    ·obtain ⟨x,hx,rfl⟩:=hx
     obtain ⟨hxn,o,ty,ho,hop,hd⟩:=hbox x hx
     obtain ⟨o',d',ho',hd',hdN,_⟩:=headOk_spec hok x.1 hxn
     obtain rfl:o'=o:=Option.some.inj (ho'.symm.trans ho)
     obtain rfl:d'=x.2:=Option.some.inj (hd'.symm.trans hd)
     rw [(hg x.1 o' x.2 ty hxn (hall _ hxn) ho hop hd).1,puts_at gf al aF hnd x hx (by rw [zF1,hN];exact hdN)]
    ·have hx':∀ x∈al,x.2≠t:=fun x hxm e=>hx ⟨x,hxm,e⟩
     rw [p3 t hx']
     by_cases hj:∃ j o,j<n∧l[j]?=some o∧o.dst=some t
     ·obtain ⟨j,o,hj,ho,hd⟩:=hj
      refine I.fill j o t hj (hall j hj) ho ?_ hd
      cases ha:isAlloc o with
      | false=>rfl
      | true =>
       unfold isAlloc at ha
       split at ha
       ·rename_i ty hty
        obtain ⟨_,x,hxm,hxj⟩:=hcov j o ty hj ho hty
        obtain ⟨_,o2,_,ho2,_,hd2⟩:=hbox x hxm
        rw [hxj] at ho2
        obtain rfl:o2=o:=Option.some.inj (ho2.symm.trans ho)
        exact absurd (Option.some.inj (hd2.symm.trans hd)) (hx' x hxm)
       ·cases ha
     ·rw [I.rest t fun j o hjn _ ho hd=>hj ⟨j,o,hjn,ho,hd⟩,zF3 t fun o hm hd=>?_]
      ·obtain ⟨j,hjj⟩:=List.getElem?_of_mem (List.mem_filter.1 hm).1
       rw [List.getElem?_take] at hjj
       split at hjj
       ·rename_i hjn;exact hj ⟨j,o,hjn,hjj,hd⟩
       ·cases hjj
   have ed:a.defers=(puts gf al aF).defers:=by rw [p2,zF2,I.defers]
   cases a
   cases hp:puts gf al aF
   rw [hp] at et ed
   simp only at et ed
   rw [et,ed]
  have dl:(l.drop n).length=l.length-n:=by simp
  have T:=wpAny_of_seq (P:=P) (md:=.any) (ops:=l.toArray) (Q':=Q) (l.drop n) n s a w (fun j=>by simp [List.getElem?_drop]) (by rw [dl,es];exact hseq)
   (by
    rw [ea]
    refine htail gf w I.up (fun x hx o t ho ht=>?_) fun x hx y hy hxy=>?_
    ·obtain ⟨hxn,o',t',ho',hop,hd⟩:=hbox x hx
     obtain rfl:o'=o:=Option.some.inj (ho'.symm.trans ho)
     obtain ⟨_,g2,_,g4,_⟩:=hg x.1 o' x.2 t hxn (hall _ hxn) ho ht hd
     exact ⟨g2,g4⟩
    ·obtain ⟨hxn,o1,t1,ho1,hop1,hd1⟩:=hbox x hx
     obtain ⟨hyn,o2,t2,ho2,hop2,hd2⟩:=hbox y hy
     exact fun e=>(hg x.1 o1 x.2 t1 hxn (hall _ hxn) ho1 hop1 hd1).2.2.2.2 y.1 o2 t2 hyn (hall _ hyn) ho2 hop2 (Ne.symm hxy) e.symm)
  rw [dl] at T
  rw [Nat.zero_add]
  exact T
 | succ f ih =>
  intro s a w I hcount
  obtain ⟨i0,hi0,hun,hbefore⟩:∃ i,i<n∧s.getD i false=false∧∀ j,j<i→s.getD j false=true:=by
   rcases least_unlisted s n with h | h
   ·have:(List.range n).countP (fun i=>!s.getD i false)=0:=List.countP_eq_zero.2 fun i hi=>by simp [h i (List.mem_range.1 hi)]
    omega
   ·exact h
  have hsz:s.size=l.length:=by rw [I.head.size];simp
  have hun':s.getD i0 true=false:=getD_in (by rw [hsz];omega) hun
  have hready:i0∈Region.ready .any l.toArray s:=by
   obtain ⟨o,d,ho,_,_,_,_,hback,_⟩:=headOk_spec hok i0 hi0
   exact mem_ready.2 ⟨hun',o,by simpa using ho,fun e he hb=>hbefore _ (hback e he hb)⟩
  rw [show f+1+(l.length-n)=f+(l.length-n)+1 by omega]
  refine ⟨fun h=>(by rw [h] at hready;cases hready),fun i hi=>?_⟩
  have hin:i<n:=Nat.lt_of_not_le fun h=>tail_waits hs hc (by simpa using hn) I.head _ i0 rfl hi0 hun' i h hi
  obtain ⟨o,d,ho,hd,hdN,hdis,hguard,_,hlook⟩:=headOk_spec hok i hin
  have hiun:=(mem_ready.1 hi).1
  have hcount':(List.range n).countP (fun j=>!(s.setIfInBounds i true).getD j false)=f:=by
   have:=count_less (p:=fun j=>!s.getD j false) (q:=fun j=>!(s.setIfInBounds i true).getD j false) (i:=i) (by simp only [getD_both hiun];rfl)
    (by
      have:i<s.size:=by rw [hsz];omega
      simp [this]) (fun j hj=>by simp only [getD_set_ne false (Ne.symm hj)]) (List.range n) List.nodup_range (List.mem_range.2 hin)
   omega
  have hdlt:d<a0.tmps.size:=by rw [hN];exact hdN
  unfold wpOp
  simp only [List.getElem?_toArray,ho]
  cases ha:isAlloc o with
  | true =>
   obtain ⟨t,ht⟩:∃ t,o.op=.alloc t:=by
    unfold isAlloc at ha
    split at ha
    ·rename_i t ht;exact ⟨t,ht⟩
    ·cases ha
   rw [if_pos (by unfold Region.wanted;rw [hguard ha])]
   refine .inl ?_
   unfold Oper.wp
   rw [hz t (hcov i o t hin ho ht).1 o a.eval w ht]
   exact ih _ _ _ (I.box hok hin ho ht hd hi hdlt) hcount'
  | false =>
   obtain ⟨act,q1,q2,v,hv,hy⟩:=walk_at (l.take n) a0 (hwalk w I.up) (fun i j oi oj t h1 h2 h3 h4=>by
     rw [List.getElem?_take] at h1 h2
     split at h1<;>split at h2
     ·rename_i hi' hj'
      obtain ⟨o1,d1,ho1,hd1,_,hdis1,_⟩:=headOk_spec hok i hi'
      obtain rfl:o1=oi:=Option.some.inj (ho1.symm.trans h1)
      obtain rfl:d1=t:=Option.some.inj (hd1.symm.trans h3)
      exact Classical.byContradiction fun e=>hdis1 j hj' (fun e'=>e e'.symm) (by simp [dstAt,h2,h4])
     ·cases h2
     ·cases h1
     ·cases h1) i o d (by rw [List.getElem?_take,if_pos hin];exact ho) ha hd hdlt
   have agree:∀ t∈o.looksAt l.toArray,a.tmps[t]?=act.tmps[t]?:=fun t ht=>by
    by_cases hj:∃ j oj,j<n∧l[j]?=some oj∧oj.dst=some t
    ·obtain ⟨j,oj,hjn,hoj,hjd⟩:=hj
     obtain ⟨hji,hja,e,he,hb,hon⟩:=hlook j hjn oj t hoj hjd ht
     have hlj:s.getD j false=true:=by
      obtain ⟨_,o',ho',hdeps⟩:=mem_ready.1 hi
      obtain rfl:o'=o:=Option.some.inj (ho'.symm.trans (by simpa using ho))
      rw [←hon];exact hdeps e he hb
     rw [I.fill j oj t hjn hlj hoj hja hjd,q1 j oj t hji (by rw [List.getElem?_take,if_pos hjn];exact hoj) hja hjd]
    ·rw [I.rest t fun j oj hjn _ hoj hjd=>hj ⟨j,oj,hjn,hoj,hjd⟩,q2 t fun j oj hjk hoj _ hjd=>?_]
     rw [List.getElem?_take] at hoj
     split at hoj
     ·rename_i hjn;exact hj ⟨j,oj,hjn,hoj,hjd⟩
     ·cases hoj
   have hsel':=Region.noSelect_spec hsel i o
   have hex:execOp a.eval o=execOp act.eval o:=exec_same o (fun cs b=>hsel' cs b (by simpa using ho)) agree
   rw [wanted_same o agree]
   rcases hy with ⟨hw,hq⟩ | ⟨hw,rfl⟩
   ·rw [if_pos hw]
    refine .inl (Oper.wp_of_quiet (C:=fun w'=>∃ u:Later w,w'=u.now) (K:=fun a'=>a'=a.put o.dst v) ⟨⟨w,Below.refl _ _⟩,rfl⟩ (fun a' w' hw' e=>?_) ⟨v,fun x hx=>?_,rfl⟩)
    ·obtain ⟨u,rfl⟩:=hw'
     subst e
     exact ih _ _ _ (I.quiet hok hin ho ha hd hi hdlt hv u.up) hcount'
    ·have:=hq x hx
     unfold Oper.quietAt at *
     rw [hex];exact this
   ·rw [if_neg (by simp [hw])]
    exact ih _ _ _ (I.quiet hok hin ho ha hd hi hdlt hv (Below.refl _ _)) hcount'
theorem wp_region_boxes {P:Program} {id:Nat} {l:List Oper} {Q:Exit→Act→World→Prop} {a0 aF:Act} {w1:World} (n N:Nat) (al:List (Nat×Tmp)) (ts:List TypeId) (Z:TypeId→List Value) (hm:P.follows .mixedOrders=true) (hB:anyOk l n N al ts=true) (hN:a0.tmps.size=N)
  (hz:∀ t∈ts,∀ (o:Oper) (ρ:Operand→Value) (w:World),o.op=.alloc t→(execOp ρ o).run P w=.ok (.value (.pointer (some ⟨w.heap.size,0,none⟩))) (w.alloc (.cells (Z t).toArray t)))
  (hwalk:∀ v0:World,Below w1.heap.size w1 v0→∀ K:Act→Prop,Hid (∀ a',a'=aF→K a')→wpQuiet P l.toArray (fun w'=>∃ u:Later v0,w'=u.now) K ((l.take n).filter fun o=>!isAlloc o) a0)
  (htail:∀ (gf:Nat→Nat) (w':World),Below w1.heap.size w1 w'→(∀ x∈al,∀ (o:Oper) (t:TypeId),l[x.1]?=some o→o.op=.alloc t→w1.heap.size≤gf x.1∧Bx w' (gf x.1) (Z t)) →
   (∀ x∈al,∀ y∈al,x.1≠y.1→gf x.1≠gf y.1)→wpList P l.toArray Q (l.drop n) (puts gf al aF) w') :
  (Code.region id l.toArray true).wp P Q a0 w1:=by
 refine wp_region_any hm ?_
 have hn:n<l.length:=by
  have:=hB
  simp only [anyOk,Bool.and_eq_true,decide_eq_true_eq] at this
  exact this.1.1.1.1.1.2
 have G:=under_wp (P:=P) (Q:=Q) (a0:=a0) (aF:=aF) (w1:=w1) hB hN (fun v0 h0=>hwalk v0 h0 _ (Lib.hid fun a' h=>h)) hz htail n (Array.replicate l.toArray.size false) a0 w1.drew
  ⟨⟨by simp,fun j oj _ hj=>(by rw [getD_replicate_false] at hj;cases hj),fun t _ ht=>getD_in (by simpa using ht) (getD_replicate_false _ _)⟩,rfl,rfl,
   fun i o t _ hl=>(by rw [getD_replicate_false] at hl;cases hl),fun _ _=>rfl,up_drew (Below.refl _ _),fun _=>0,fun i o d t _ hl=>by rw [getD_replicate_false] at hl;cases hl⟩
  (by
   have:(fun i=>!(Array.replicate l.toArray.size false).getD i false)=fun _=>true:=by funext i;rw [getD_replicate_false];rfl
   rw [this];simp)
 rw [show n+(l.length-n)=l.toArray.size by simp;omega] at G
 exact G
theorem wp_region_boxes' {P:Program} {id:Nat} {l:List Oper} {Q:Exit→Act→World→Prop} {a0:Act} {w1:World} (n N:Nat) (al:List (Nat×Tmp)) (ts:List TypeId) (Z:TypeId→List Value) (hm:P.follows .mixedOrders=true) (hB:anyOk l n N al ts=true) (hN:a0.tmps.size=N)
  (hz:∀ t∈ts,∀ (o:Oper) (ρ:Operand→Value) (w:World),o.op=.alloc t→(execOp ρ o).run P w=.ok (.value (.pointer (some ⟨w.heap.size,0,none⟩))) (w.alloc (.cells (Z t).toArray t)))
  (h:∃ aF:Act,(∀ v0:World,Below w1.heap.size w1 v0→∀ K:Act→Prop,Hid (∀ a',a'=aF→K a')→wpQuiet P l.toArray (fun w'=>∃ u:Later v0,w'=u.now) K ((l.take n).filter fun o=>!isAlloc o) a0) ∧
   ∀ (gf:Nat→Nat) (w':World),Below w1.heap.size w1 w'→(∀ x∈al,∀ (o:Oper) (t:TypeId),l[x.1]?=some o→o.op=.alloc t→w1.heap.size≤gf x.1∧Bx w' (gf x.1) (Z t)) →
    (∀ x∈al,∀ y∈al,x.1≠y.1→gf x.1≠gf y.1)→wpList P l.toArray Q (l.drop n) (puts gf al aF) w') :
  (Code.region id l.toArray true).wp P Q a0 w1:=by
 obtain ⟨aF,h1,h2⟩:=h
 exact wp_region_boxes n N al ts Z hm hB hN hz h1 h2
end Go.Proofs.Ytabinmabggnhbaa
namespace Go.Proofs.Ytabinmabggnhbaa
open Go.RowKit
def zeroL:List Value:=jobL ⟨#[]⟩ (fun _=>0) 0 0 (.slice none 0 0) (.slice none 0 0)
theorem job_alloc (w:World):(Instr.alloc 29 true (.tuple #[])).run Try.prog w=.ok (.pointer (some ⟨w.heap.size,0,none⟩)) (w.alloc (.cells zeroL.toArray 29)):=by
 kernel_rfl
def firstN (k:Nat) (n:Nat→Int):Nat→Int:=fun i=>if i<k then n i else 0
def PutRel (w:World) (g g2:Nat) (t:ByteArray) (m:Nat→Int) (c r:Int) (fv lv:Value) (i:Nat) (wx:World):Prop :=
 Bx wx g2 (jobL t (firstN i m) c r fv lv)∧Bx wx g (enc (numsL m))∧Bx wx (w.heap.size+1) zeroL∧Below w.heap.size w wx
theorem firstN_next (i:Nat) (m:Nat→Int):setN (firstN i m) i (m i)=firstN (i+1) m:=by
 funext j
 unfold setN firstN
 by_cases h:j=i
 ·subst h;simp
 ·have:(j<i+1)=(j<i):=by apply propext;omega
  rw [if_neg h]
  simp only [this]
theorem PutRel.put {w:World} {g g2:Nat} {t:ByteArray} {m:Nat→Int} {c r:Int} {fv lv:Value} {wx:World} {i:Nat} (h:PutRel w g g2 t m c r fv lv i wx) (hn:g≠g2∧w.heap.size+1≠g2∧w.heap.size≤g2) (hi:i<28):PutRel w g g2 t m c r fv lv (i+1) (wx.setCell ⟨g2,cellJ i,none⟩ (.int .i64 (m i))):=by
 refine ⟨?_,h.2.1.far (p:=⟨g2,cellJ i,none⟩) (fun e=>hn.1 e.symm) _,h.2.2.1.far (p:=⟨g2,cellJ i,none⟩) (fun e=>hn.2.1 e.symm) _,h.2.2.2.setCell (p:=⟨g2,cellJ i,none⟩) hn.2.2 _⟩
 have:=h.1.set (cellJ i) (.int .i64 (m i))
 rwa [job_set _ _ _ _ _ _ hi,firstN_next] at this
end Go.Proofs.Ytabinmabggnhbaa
namespace Go.Proofs.Ytabinmabggnhbaa
open Go.RowKit Go.Shelf
attribute [local go_sem] Oper.semAt_some
theorem InL.kept {W W':World} {row:Option Nat} {a:Option Addr} {l:List Sp} (h:InL W a l) (hg:W.grownBy W' row) (hr:∀ r,row=some r→∃ o:Obj,W.heap[r]?=some o∧o.isCells=false):InL W' a l:=by
 rcases h with h | ⟨b,off,e,h⟩
 ·exact .inl h
 ·exact .inr ⟨b,off,e,fun j p hp=>by
   obtain ⟨h0,h1,h2⟩:=h j p hp
   exact ⟨cell_kept h0 hg hr,cell_kept h1 hg hr,cell_kept h2 hg hr⟩⟩
theorem Cells.kept {W W':World} {row:Option Nat} {B:Nat} {vs:List Value} (h:∀ j v,vs[j]?=some v→W.cell? ⟨B,j,none⟩=some v) (hg:W.grownBy W' row) (hr:∀ r,row=some r→∃ o:Obj,W.heap[r]?=some o∧o.isCells=false):∀ j v,vs[j]?=some v→W'.cell? ⟨B,j,none⟩=some v:=fun j v hj=>cell_kept (h j v hj) hg hr
theorem InF.kept {W W':World} {base:Nat} {row:Option Nat} {a:Option Addr} {l:List Sp} (h:InF base W a l) (hg:W.grownBy W' row) (hr:∀ r,row=some r→∃ o:Obj,W.heap[r]?=some o∧o.isCells=false):InF base W' a l:=by
 rcases h with h | ⟨b,off,e,h0,h⟩
 ·exact .inl h
 ·exact .inr ⟨b,off,e,h0,fun j p hp=>by
   obtain ⟨h0,h1,h2⟩:=h j p hp
   exact ⟨cell_kept h0 hg hr,cell_kept h1 hg hr,cell_kept h2 hg hr⟩⟩
end Go.Proofs.Ytabinmabggnhbaa
