/- The trim, what may be seen, and where a page comes, as it is read, for every job. -/
import Derived.Test.YtnmmmedflmdpbaaPart1
import Derived.Test.YtnmmmedflmdpbaaPart2
import Derived.Test.YtnmmmedflmdpbaaPart3
import Derived.Test.YtnmmmedflmdpbaaPart4
import Derived.Test.YtnmmmedflmdpbaaPart5
import Derived.Test.YtnmmmedflmdpbaaRows
import Derived.WalkKit
import Derived.ProofKit
import Derived.OpenShut
import Derived.ShutString
import Derived.ChangeOld
import Derived.Below
import Derived.Lib.SmallJoins
import Derived.Laws.IdiomArrays
set_option linter.unusedVariables false
namespace Go.Proofs.Ytnmmmedflmdpbaa
open Go.RowKit
theorem walkPanelReads (cs:List Value) (j:Jb) (recto:Bool) (n:Int) (X Y:Int) (w:World) (h:(JobA w cs j∧j.t.length≤maxLen∧∀ p∈j.ls,p.length≤maxLen)∧(∀ i,-9223372036854775808≤j.n i∧j.n i≤9223372036854775807)) (y0:(Lit.int .i64 n).wf=true) (p0:(Lit.int .i64 X).wf=true) (p1:(Lit.int .i64 Y).wf=true) :
  Calls Try.prog 4 #[.agg cs.toArray,.bool recto,.int .i64 n,.agg #[.int .i64 X,.int .i64 Y]] w fun e w'=>e=.returned (.bool true)∧Below w.heap.size w w' :=
 walkPanelReadsK panSize panLies panTrim panClip panReader panSource cs j recto n X Y w h y0 p0 p1
end Go.Proofs.Ytnmmmedflmdpbaa
namespace Go.Proofs.Ytnmmmedflmdpbaa.panelReads
open Go.ChangeShapes Go.WideShapes Go.ChangeAt Go.RowKit Go.Joins
open Go.ChangeMaps (open_string shut_string)
theorem own:ownKnob Try.prog.godebug=none:=by kernel_rfl
theorem laidOut:laidOutB Try.prog=true:=by kernel_rfl
def IsRow (k:IntKind) (w:World) (a:Option Addr) (len cap:Nat) (zs:List Int):Prop :=
 (a=none∧len=0∧cap=0∧zs=[]) ∨
 ∃ x,a=some x∧len≤cap∧cap≤maxLen∧zs.length=cap∧(∀ i,i<zs.length→w.cell? (x.add i)=some (.int k (zs.getD i 0)))∧∀ n∈zs,(Lit.int k n).wf=true
theorem list4 {α:Type} (l:List α) (h:(⟨l⟩:Array α).size=4):∃ a b c d,l=[a,b,c,d]:=by
 match l,h with
 | [a,b,c,d],_=>exact ⟨a,b,c,d,rfl⟩
set_option maxHeartbeats 400000 in
set_option maxRecDepth 100000 in
theorem lifted (os:Os) (started:os.Started) (H:Type) (enc:TypeId×Value→H) :
  ReturnsInHanded {} Try.checked os 4 .any (Rows.panelReadsSpec.pre6 enc Try.prog Try.f4 Rows.panelReadsRow.domain false) (Rows.panelReadsSpec.post enc Try.prog Try.f4 false true false false):=by
 refine returnsInHanded_of_change (C:=Try.checked) own started (by kernel_rfl) Try.func4
  (ChangeSpec.witness6 (enc:=enc) (C:=Try.checked) false ⟨#[],#[.agg #[.string ⟨#[]⟩,.int .i64 0,.int .i64 0,.int .i64 0,.int .i64 0,.int .i64 0,.int .i64 0,.int .i64 0,.int .i64 0,.int .i64 0,.int .i64 0,.int .i64 0,.int .i64 0,.int .i64 0,.slice none 0 0,.slice none 0 0,.int .i64 0,.int .i64 0,.int .i64 0,.int .i64 0,.int .i64 0,.int .i64 0,.int .i64 0,.int .i64 0,.int .i64 0,.int .i64 0,.int .i64 0,.int .i64 0,.int .i64 0,.int .i64 0,.int .i64 0,.int .i64 0,.int .i64 0],.bool false,.int .i64 0,.agg #[.int .i64 0,.int .i64 0]],[]⟩ 8 (by kernel_rfl) (by kernel_rfl) (by kernel_rfl) (by kernel_rfl)) ?_
 intro W base args ds gs before hval0 hW hcnd _
 have hval:∀ (j:Nat) t v,Try.f4.params[j]?=some t→args[j]?=some v→Value.okWide Try.prog W .any base t v:=hval0
 have hW':=hW
 obtain ⟨p,q,hA0,hV,rfl,hfz,hnd⟩:=hW
 have hA:DataW.TrodAll enc Try.prog W 0 (fun _=>true) true Try.f4.params.toList args.toList ds p:=hA0
 rw [Try.params4] at hA hval
 obtain ⟨v0,vs0,d0,ds0,p0,q0,hargs,rfl,rfl,h0,r0⟩:=trodAll_cons hA
 obtain ⟨v1,vs1,d1,ds1,p1,q1,rfl,rfl,rfl,h1,r1⟩:=trodAll_cons r0
 obtain ⟨v2,vs2,d2,ds2,p2,q2,rfl,rfl,rfl,h2,r2⟩:=trodAll_cons r1
 obtain ⟨v3,vs3,d3,ds3,p3,q3,rfl,rfl,rfl,h3,r3⟩:=trodAll_cons r2
 obtain ⟨rfl,rfl,rfl⟩:=trodAll_nil r3
 obtain rfl:args=#[v0,v1,v2,v3]:=by cases args;simp_all
 obtain ⟨rfl,rfl⟩:=trodVars_none hV
 have k0:=h0
 have lt0:∀ x∈p0,x.block<W.heap.size:=by obtain ⟨m,hm⟩:=k0;exact DataW.trod_lt m _ _ _ hm
 obtain ⟨cs0,rfl,hsz0,_⟩:∃ cs,v0=.agg cs∧cs.size=Try.prog.cellsOf 29∧Row.okWide Try.prog W .any base 29 cs:=by
  have:=hval 0 29 v0 rfl rfl
  simpa [Value.okWide,Try.underlying29] using this
 rw [show Try.prog.cellsOf 29=33 by kernel_rfl] at hsz0
 obtain ⟨l0⟩:=cs0
 obtain ⟨fuel0,hf0⟩:=h0
 obtain ⟨jb0,w0⟩:=open_jobW (cs:=l0) hsz0 hf0
 obtain ⟨a1,rfl,rfl,rfl⟩:=open_bool Try.underlying4 (hval 1 4 v1 rfl rfl) h1
 obtain ⟨a2,rfl,rfl,rfl,w2⟩:=open_int Try.underlying3 (hval 2 3 v2 rfl rfl) h2
 have k3:=h3
 have lt3:∀ x∈p3,x.block<W.heap.size:=by obtain ⟨m,hm⟩:=k3;exact DataW.trod_lt m _ _ _ hm
 obtain ⟨c3_0,c3_1,y3_0,y3_1,m3,rfl,rfl,rfl,hy3_0,hy3_1⟩:=open_agg2 Try.underlying23 (by kernel_rfl) (show Try.prog.cellsOf 23=2 by kernel_rfl) (hval 3 23 v3 rfl rfl) h3
 obtain ⟨a3_0,e3_0,rfl,w3_0⟩:=DataW.trod_int Try.underlying3 hy3_0
 obtain ⟨a3_1,e3_1,rfl,w3_1⟩:=DataW.trod_int Try.underlying3 hy3_1
 simp at e3_0 e3_1
 subst e3_0 e3_1
 clear hA0 hval0
 refine (walkPanelReads l0 jb0 a1 a2 a3_0 a3_1 W w0 w2 w3_0 w3_1).mono fun e W' ⟨he,bel⟩=>?_
 subst he
 exact ⟨_,rfl,_,_,_,[],_,[],hW',trodAll_mk1 (shut_bool Try.underlying4 _),(trodAll_cons_mk (Below.trod laidOut (by kernel_rfl) (of_decide_eq_true (by kernel_rfl)) k0 bel lt0) (trodAll_cons_mk (shut_bool Try.underlying4 _) (trodAll_cons_mk (shut_int Try.underlying3 w2) (trodAll_cons_mk (Below.trod laidOut (by kernel_rfl) (of_decide_eq_true (by kernel_rfl)) k3 bel lt3) trodAll_mk0)))),rfl,bel.frame _,fun h=>by cases h⟩
theorem over:Rows.panelReadsRow.holds Try.pinned (OpenSpec.ofChange Rows.panelReadsSpec) :=
 OpenClaim.holds_of_wide 4 Try.f4 rfl rfl rfl rfl rfl rfl rfl ⟨rfl,rfl,rfl,rfl,rfl⟩ rfl rfl rfl rfl rfl (by kernel_rfl) Try.func4 (by kernel_rfl)
  (of_decide_eq_true (by kernel_rfl)) (by unfold Func.isWrapper;first | (rw [if_pos (by decide +kernel)];kernel_rfl) | (rw [if_neg (by decide +kernel)];exact ⟨rfl,rfl⟩))
  (fun os started H enc _=>lifted os started H enc)
theorem proved:Rows.PanelReadsSaid:=over
#print axioms proved
end Go.Proofs.Ytnmmmedflmdpbaa.panelReads
