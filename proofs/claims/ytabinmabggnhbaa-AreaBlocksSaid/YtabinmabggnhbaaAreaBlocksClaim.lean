/- gatherumlaw22.AreaBlocks answers true for every job, every scheme and every side: which blocks are on a plate is as the document's own answers say. -/
import Derived.Test.YtabinmabggnhbaaPart1
import Derived.Test.YtabinmabggnhbaaPart2
import Derived.Test.YtabinmabggnhbaaPart3
import Derived.Test.YtabinmabggnhbaaPart4
import Derived.Test.YtabinmabggnhbaaPart5
import Derived.Test.YtabinmabggnhbaaPart6
import Derived.Test.YtabinmabggnhbaaPart7
import Derived.Test.YtabinmabggnhbaaPart8
import Derived.Test.YtabinmabggnhbaaRows
import Derived.WalkKit
import Derived.ProofKit
import Derived.OpenShut
import Derived.ShutString
import Derived.ChangeOld
import Derived.Below
import Derived.Lib.SmallJoins
import Derived.Laws.IdiomArrays
set_option linter.unusedVariables false
namespace Go.Proofs.Ytabinmabggnhbaa
open Go.RowKit
theorem walkAreaBlocks (cs:List Value) (j:Jb) (c r:Int) (ad:Option Addr) (len cap:Nat) (s:Int) (w:World) (h:(JobA w cs j∧j.t.length≤maxLen∧∀ p∈j.ls,p.length≤maxLen)∧(∀ i,-9223372036854775808≤j.n i∧j.n i≤9223372036854775807)) (x0:(Lit.int .i64 c).wf=true) (x1:(Lit.int .i64 r).wf=true) (hs:(ad=none∧len=0∧cap=0)∨∃ x,ad=some x∧len≤cap∧cap≤maxLen∧∀ i,i<len→(∃ z,w.cell? (x.add (i*3+0))=some (.int .i64 z)∧(Lit.int .i64 z).wf=true)∧(∃ z,w.cell? (x.add (i*3+1))=some (.int .i64 z)∧(Lit.int .i64 z).wf=true)∧(∃ z,w.cell? (x.add (i*3+2))=some (.bool z))) (y0:(Lit.int .i64 s).wf=true) :
  Calls Try.prog 4 #[.agg cs.toArray,.agg #[.int .i64 c,.int .i64 r,.slice ad len cap],.int .i64 s] w fun e w'=>e=.returned (.bool true)∧Below w.heap.size w w' :=
 walkAreaBlocksK arOuter arFits arAt arBlocks cs j c r ad len cap s w h x0 x1 hs y0
end Go.Proofs.Ytabinmabggnhbaa
namespace Go.Proofs.Ytabinmabggnhbaa.areaBlocks
open Go.ChangeShapes Go.WideShapes Go.ChangeAt Go.RowKit Go.Joins
open Go.ChangeMaps (open_string shut_string)
theorem own:ownKnob Try.prog.godebug=none:=by kernel_rfl
theorem laidOut:laidOutB Try.prog=true:=by kernel_rfl
def IsRow (k:IntKind) (w:World) (a:Option Addr) (len cap:Nat) (zs:List Int):Prop :=
 (a=none∧len=0∧cap=0∧zs=[]) ∨
 ∃ x,a=some x∧len≤cap∧cap≤maxLen∧zs.length=cap∧(∀ i,i<zs.length→w.cell? (x.add i)=some (.int k (zs.getD i 0)))∧∀ n∈zs,(Lit.int k n).wf=true
theorem list4 {α:Type} (l:List α) (h:(⟨l⟩:Array α).size=4):∃ a b c d,l=[a,b,c,d]:=by
 match l,h with
 | [a,b,c,d],_=>exact ⟨a,b,c,d,rfl⟩
set_option maxHeartbeats 400000 in
set_option maxRecDepth 100000 in
theorem lifted (os:Os) (started:os.Started) (H:Type) (enc:TypeId×Value→H) :
  ReturnsInHanded {} Try.checked os 4 .any (Rows.areaBlocksSpec.pre6 enc Try.prog Try.f4 Rows.areaBlocksRow.domain false) (Rows.areaBlocksSpec.post enc Try.prog Try.f4 false true false false):=by
 refine returnsInHanded_of_change (C:=Try.checked) own started (by kernel_rfl) Try.func4
  (ChangeSpec.witness6 (enc:=enc) (C:=Try.checked) false ⟨#[],#[.agg #[.string ⟨#[]⟩,.int .i64 0,.int .i64 0,.int .i64 0,.int .i64 0,.int .i64 0,.int .i64 0,.int .i64 0,.int .i64 0,.int .i64 0,.int .i64 0,.int .i64 0,.int .i64 0,.int .i64 0,.slice none 0 0,.slice none 0 0,.int .i64 0,.int .i64 0,.int .i64 0,.int .i64 0,.int .i64 0,.int .i64 0,.int .i64 0,.int .i64 0,.int .i64 0,.int .i64 0,.int .i64 0,.int .i64 0,.int .i64 0,.int .i64 0,.int .i64 0,.int .i64 0,.int .i64 0],.agg #[.int .i64 0,.int .i64 0,.slice none 0 0],.int .i64 0],[]⟩ 8 (by kernel_rfl) (by kernel_rfl) (by kernel_rfl) (by kernel_rfl)) ?_
 intro W base args ds gs before hval0 hW hcnd _
 have hval:∀ (j:Nat) t v,Try.f4.params[j]?=some t→args[j]?=some v→Value.okWide Try.prog W .any base t v:=hval0
 have hW':=hW
 obtain ⟨p,q,hA0,hV,rfl,hfz,hnd⟩:=hW
 have hA:DataW.TrodAll enc Try.prog W 0 (fun _=>true) true Try.f4.params.toList args.toList ds p:=hA0
 rw [Try.params4] at hA hval
 obtain ⟨v0,vs0,d0,ds0,p0,q0,hargs,rfl,rfl,h0,r0⟩:=trodAll_cons hA
 obtain ⟨v1,vs1,d1,ds1,p1,q1,rfl,rfl,rfl,h1,r1⟩:=trodAll_cons r0
 obtain ⟨v2,vs2,d2,ds2,p2,q2,rfl,rfl,rfl,h2,r2⟩:=trodAll_cons r1
 obtain ⟨rfl,rfl,rfl⟩:=trodAll_nil r2
 obtain rfl:args=#[v0,v1,v2]:=by cases args;simp_all
 obtain ⟨rfl,rfl⟩:=trodVars_none hV
 have k0:=h0
 have lt0:∀ x∈p0,x.block<W.heap.size:=by obtain ⟨m,hm⟩:=k0;exact DataW.trod_lt m _ _ _ hm
 obtain ⟨cs0,rfl,hsz0,_⟩:∃ cs,v0=.agg cs∧cs.size=Try.prog.cellsOf 29∧Row.okWide Try.prog W .any base 29 cs:=by
  have:=hval 0 29 v0 rfl rfl
  simpa [Value.okWide,Try.underlying29] using this
 rw [show Try.prog.cellsOf 29=33 by kernel_rfl] at hsz0
 obtain ⟨l0⟩:=cs0
 obtain ⟨fuel0,hf0⟩:=h0
 obtain ⟨jb0,w0⟩:=open_jobW (cs:=l0) hsz0 hf0
 have k1:=h1
 have lt1:∀ x∈p1,x.block<W.heap.size:=by obtain ⟨m,hm⟩:=k1;exact DataW.trod_lt m _ _ _ hm
 obtain ⟨c1_0,c1_1,c1_2,y1_0,y1_1,y1_2,m1,rfl,rfl,rfl,hy1_0,hy1_1,hy1_2⟩:=open_agg3 Try.underlying26 (by kernel_rfl) (show Try.prog.cellsOf 26=3 by kernel_rfl) (hval 1 26 v1 rfl rfl) h1
 obtain ⟨a1_0,e1_0,rfl,w1_0⟩:=DataW.trod_int Try.underlying3 hy1_0
 obtain ⟨a1_1,e1_1,rfl,w1_1⟩:=DataW.trod_int Try.underlying3 hy1_1
 obtain ⟨a1_2,len1_2,cap1_2,e1_2,w1_2⟩:∃ (a:Option Addr) (len cap:Nat),[c1_2]=[Value.slice a len cap]∧((a=none∧len=0∧cap=0)∨∃ x,a=some x∧len≤cap∧cap≤maxLen∧∀ i,i<len→(∃ z,W.cell? (x.add (i*3+0))=some (.int .i64 z)∧(Lit.int .i64 z).wf=true)∧(∃ z,W.cell? (x.add (i*3+1))=some (.int .i64 z)∧(Lit.int .i64 z).wf=true)∧(∃ z,W.cell? (x.add (i*3+2))=some (.bool z))):=by
  rcases open_cell_structs Try.underlying24 Try.underlying61 (by kernel_rfl) (by kernel_rfl) hy1_2 with hcs | ⟨x,l,c,hcs,hl,hm,hV⟩
  ·exact ⟨none,0,0,hcs,.inl ⟨rfl,rfl,rfl⟩⟩
  ·exact ⟨some x,l,c,hcs,.inr ⟨x,rfl,hl,hm,fun i hi=>⟨fit_int Try.underlying3 (hV i hi 0 _ rfl),fit_int Try.underlying3 (hV i hi 1 _ rfl),fit_bool Try.underlying4 (hV i hi 2 _ rfl)⟩⟩⟩
 simp at e1_0 e1_1 e1_2
 subst e1_0 e1_1 e1_2
 obtain ⟨a2,rfl,rfl,rfl,w2⟩:=open_int Try.underlying3 (hval 2 3 v2 rfl rfl) h2
 clear hA0 hval0
 refine (walkAreaBlocks l0 jb0 a1_0 a1_1 a1_2 len1_2 cap1_2 a2 W w0 w1_0 w1_1 w1_2 w2).mono fun e W' ⟨he,bel⟩=>?_
 subst he
 exact ⟨_,rfl,_,_,_,[],_,[],hW',trodAll_mk1 (shut_bool Try.underlying4 _),(trodAll_cons_mk (Below.trod laidOut (by kernel_rfl) (of_decide_eq_true (by kernel_rfl)) k0 bel lt0) (trodAll_cons_mk (Below.trod laidOut (by kernel_rfl) (of_decide_eq_true (by kernel_rfl)) k1 bel lt1) (trodAll_cons_mk (shut_int Try.underlying3 w2) trodAll_mk0))),rfl,bel.frame _,fun h=>by cases h⟩
theorem over:Rows.areaBlocksRow.holds Try.pinned (OpenSpec.ofChange Rows.areaBlocksSpec) :=
 OpenClaim.holds_of_wide 4 Try.f4 rfl rfl rfl rfl rfl rfl rfl ⟨rfl,rfl,rfl,rfl,rfl⟩ rfl rfl rfl rfl rfl (by kernel_rfl) Try.func4 (by kernel_rfl)
  (of_decide_eq_true (by kernel_rfl)) (by unfold Func.isWrapper;first | (rw [if_pos (by decide +kernel)];kernel_rfl) | (rw [if_neg (by decide +kernel)];exact ⟨rfl,rfl⟩))
  (fun os started H enc _=>lifted os started H enc)
theorem proved:Rows.AreaBlocksSaid:=over
#print axioms proved
end Go.Proofs.Ytabinmabggnhbaa.areaBlocks
