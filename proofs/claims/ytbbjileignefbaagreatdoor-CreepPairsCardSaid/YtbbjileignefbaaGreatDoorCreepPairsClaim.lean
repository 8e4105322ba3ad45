/- CreepPairs: for every job, whatever its pages: both leaves of a pair are pushed alike, none less than the one outside of it, and none at all, where nothing is nested; the job is left as it was. -/
import Derived.Test.YtbbjileignefbaaGreatDoorPart1
import Derived.Test.YtbbjileignefbaaGreatDoorPart2
import Derived.Test.YtbbjileignefbaaGreatDoorPart3
import Derived.Test.YtbbjileignefbaaGreatDoorPart4
import Derived.Test.YtbbjileignefbaaGreatDoorPart5
import Derived.Test.YtbbjileignefbaaGreatDoorPart6
import Derived.Test.YtbbjileignefbaaGreatDoorPart7
import Derived.Test.YtbbjileignefbaaGreatDoorPart8
import Derived.Test.YtbbjileignefbaaGreatDoorPart9
import Derived.Test.YtbbjileignefbaaGreatDoorPart10
import Derived.Test.YtbbjileignefbaaGreatDoorPart11
import Derived.Test.YtbbjileignefbaaGreatDoorPart12
import Derived.Test.YtbbjileignefbaaGreatDoorPart13
import Derived.Test.YtbbjileignefbaaGreatDoorPart14
import Derived.Test.YtbbjileignefbaaGreatDoorPart15
import Derived.Test.YtbbjileignefbaaGreatDoorPart16
import Derived.Test.YtbbjileignefbaaGreatDoorPart17
import Derived.Test.YtbbjileignefbaaGreatDoorPart18
import Derived.Test.YtbbjileignefbaaGreatDoorRows
import Derived.Test.YtbbjileignefbaaGreatDoorCards
import Derived.Test.YtbbjileignefbaaGreatDoorTie
import Derived.WalkKit
import Derived.LaidMore
import Derived.Lay
import Derived.MakeChecks
import Derived.Stop.Joined
import Derived.SevenTiedAt
import Derived.ProofKit
import Derived.OpenShut
import Derived.ShutString
import Derived.ChangeOld
import Derived.Below
import Derived.Lib.SmallJoins
import Derived.Laws.IdiomArrays
set_option linter.unusedVariables false
namespace Go.Proofs.YtbbjileignefbaaGreatDoor
open Go.RowKit
theorem walkCreepPairs (cs:List Value) (j:Jb) (x:Int) (w:World) (h:(JobA w cs j∧j.t.length≤maxLen∧∀ p∈j.ls,p.length≤maxLen)∧(∀ i,-9223372036854775808≤j.n i∧j.n i≤9223372036854775807)∧j.f.c≤9223372036854775807∧j.f.r≤9223372036854775807) (hx:(Lit.int .i64 x).wf=true) (hg:GoodM w) :
  Calls Tryz.prog 4 #[.agg cs.toArray,.int .i64 x] w fun e w'=>e=.returned (.bool true)∧Below w.heap.size w w' :=
 walkCreepPairsK crOutside crOf crMost cs j x w h hx hg
end Go.Proofs.YtbbjileignefbaaGreatDoor
namespace Go.Proofs.YtbbjileignefbaaGreatDoor.creepPairs
open Go.ChangeShapes Go.WideShapes Go.ChangeAt Go.RowKit Go.Joins
open Go.ChangeMaps (open_string shut_string)
theorem own:ownKnob Tryz.prog.godebug=none:=by kernel_rfl
theorem laidOut:laidOutB Tryz.prog=true:=by kernel_rfl
def IsRow (k:IntKind) (w:World) (a:Option Addr) (len cap:Nat) (zs:List Int):Prop :=
 (a=none∧len=0∧cap=0∧zs=[]) ∨
 ∃ x,a=some x∧len≤cap∧cap≤maxLen∧zs.length=cap∧(∀ i,i<zs.length→w.cell? (x.add i)=some (.int k (zs.getD i 0)))∧∀ n∈zs,(Lit.int k n).wf=true
theorem list4 {α:Type} (l:List α) (h:(⟨l⟩:Array α).size=4):∃ a b c d,l=[a,b,c,d]:=by
 match l,h with
 | [a,b,c,d],_=>exact ⟨a,b,c,d,rfl⟩
theorem plain_laid (W:World) (h:laidMetH Tryz.prog Rows.creepPairsRow.laid W):laidMet Tryz.prog Rows.creepPairsRow.laid W:=by
 rw [MakeChecks.laidMetH_plain _ _ _ (by kernel_rfl)] at h;exact h
set_option maxHeartbeats 400000 in
set_option maxRecDepth 100000 in
theorem lifted (os:Os) (started:os.Started) (H:Type) (enc:TypeId×Value→H) :
  ReturnsInHanded {} Tryz.checked os 4 .any (fun w args=>(Rows.creepPairsSpec.pre enc Tryz.prog Tryz.f4 [] false w args∧laidMetH Tryz.prog Rows.creepPairsRow.laid w)∧sizedMet enc Tryz.prog Tryz.f4 (OpenSpec.ofChange Rows.creepPairsSpec) false w args) (Rows.creepPairsSpec.post enc Tryz.prog Tryz.f4 false true false false):=by
 refine returnsInHanded_of_calls (C:=Tryz.checked) own started (by kernel_rfl)
  (ChangeSpec.witness_shaped (enc:=enc) (C:=Tryz.checked) (os:=os) (X:=fun w _=>laidMetH Tryz.prog Rows.creepPairsRow.laid w) false (World.laidAll Tryz.prog os Rows.creepPairsRow.laid) #[.agg #[.string ⟨#[]⟩,.int .i64 0,.int .i64 0,.int .i64 0,.int .i64 0,.int .i64 0,.int .i64 0,.int .i64 0,.int .i64 0,.int .i64 0,.int .i64 0,.int .i64 0,.int .i64 0,.int .i64 0,.slice none 0 0,.slice none 0 0,.int .i64 0,.int .i64 0,.int .i64 0,.int .i64 0,.int .i64 0,.int .i64 0,.int .i64 0,.int .i64 0,.int .i64 0,.int .i64 0,.int .i64 0,.int .i64 0,.int .i64 0,.int .i64 0,.int .i64 0,.int .i64 0,.int .i64 0],.int .i64 0] 8 (World.laidAll_os _ _ _)
   (World.shaped_of_ZipB (by kernel_rfl) (by kernel_rfl)) (by kernel_rfl) (by kernel_rfl) (by kernel_rfl)
   (by rw [MakeChecks.laidMetH_plain _ _ _ (by kernel_rfl)];exact laidMet_laidAll _ (by kernel_rfl) (by kernel_rfl))) ?_
 intro w0 tape inp _ hsh _ hok hpre _
 obtain ⟨_,_,_,fn,hfn,_,_,_,_,hval1⟩:=hok
 obtain rfl:Tryz.f4=fn:=Option.some.inj (Tryz.func4.symm.trans hfn)
 obtain ⟨⟨⟨ds,gs,before,hW0,-⟩,hX⟩,-⟩:=hpre
 have hW:=DataW.Whole.of_heap (w':=w0.forCall tape inp) (by rfl) hW0
 have hLH:laidMetH Tryz.prog Rows.creepPairsRow.laid (w0.forCall tape inp):=hX.of_heap (by rfl)
 clear hW0 hX
 obtain ⟨W,hWd⟩:∃ W,w0.forCall tape inp=W:=⟨_,rfl⟩
 obtain ⟨args,hargs⟩:∃ args,inp.args=args:=⟨_,rfl⟩
 obtain ⟨base,hbase⟩:∃ base,w0.heap.size=base:=⟨_,rfl⟩
 rw [hWd] at hsh hval1 hW hLH ⊢
 rw [hargs] at hval1 hW ⊢
 rw [hbase] at hval1
 have hval0:∀ (j:Nat) t v,Tryz.f4.params[j]?=some t→args[j]?=some v→Value.okWide Tryz.prog W .any base t v:=hval1
 clear hWd hargs hbase hval1 hfn
 have hL:=plain_laid W hLH
 refine (show Calls Tryz.prog 4 args W fun e W'=>∃ v,e=.returned v∧Rows.creepPairsSpec.post enc Tryz.prog Tryz.f4 false true false false W args v W' from ?_).mono fun e W' ⟨v,he,hp⟩=>by
  subst he
  exact ChangeSpec.post_blind hp
 have hval:∀ (j:Nat) t v,Tryz.f4.params[j]?=some t→args[j]?=some v→Value.okWide Tryz.prog W .any base t v:=hval0
 have hW':=hW
 obtain ⟨p,q,hA0,hV,rfl,hfz,hnd⟩:=hW
 have hA:DataW.TrodAll enc Tryz.prog W 0 (fun _=>true) true Tryz.f4.params.toList args.toList ds p:=hA0
 rw [Tryz.params4] at hA hval
 obtain ⟨v0,vs0,d0,ds0,p0,q0,hargs,rfl,rfl,h0,r0⟩:=trodAll_cons hA
 obtain ⟨v1,vs1,d1,ds1,p1,q1,rfl,rfl,rfl,h1,r1⟩:=trodAll_cons r0
 obtain ⟨rfl,rfl,rfl⟩:=trodAll_nil r1
 obtain rfl:args=#[v0,v1]:=by cases args;simp_all
 obtain ⟨rfl,rfl⟩:=trodVars_none hV
 have k0:=h0
 have lt0:∀ x∈p0,x.block<W.heap.size:=by obtain ⟨m,hm⟩:=k0;exact DataW.trod_lt m _ _ _ hm
 obtain ⟨cs0,rfl,hsz0,_⟩:∃ cs,v0=.agg cs∧cs.size=Tryz.prog.cellsOf 29∧Row.okWide Tryz.prog W .any base 29 cs:=by
  have:=hval 0 29 v0 rfl rfl
  simpa [Value.okWide,Tryz.underlying29] using this
 rw [show Tryz.prog.cellsOf 29=33 by kernel_rfl] at hsz0
 obtain ⟨l0⟩:=cs0
 obtain ⟨fuel0,hf0⟩:=h0
 obtain ⟨jb0,w0⟩:=open_jobF (cs:=l0) hsz0 hf0
 obtain ⟨a1,rfl,rfl,rfl,w1⟩:=open_int Tryz.underlying3 (hval 1 3 v1 rfl rfl) h1
 clear hA0 hval0
 refine (walkCreepPairs l0 jb0 a1 W w0 w1 (⟨good_of hL 2 4 5 rfl rfl rfl,mx_of hsh⟩)).mono fun e W' ⟨he,bel⟩=>?_
 subst he
 exact ⟨_,rfl,_,_,_,[],_,[],hW',trodAll_mk1 (shut_bool Tryz.underlying4 _),(trodAll_cons_mk (Below.trod laidOut (by kernel_rfl) (of_decide_eq_true (by kernel_rfl)) k0 bel lt0) (trodAll_cons_mk (shut_int Tryz.underlying3 w1) trodAll_mk0)),rfl,bel.frame _,fun h=>by cases h⟩
theorem over:Rows.creepPairsRow.holds Tryz.pinned (OpenSpec.ofChange Rows.creepPairsSpec) :=
 OpenClaim.holds_of_wide 4 Tryz.f4 rfl rfl rfl rfl rfl rfl rfl ⟨rfl,rfl,rfl,rfl,rfl⟩ rfl rfl rfl rfl rfl (by kernel_rfl) Tryz.func4 (by kernel_rfl)
  (of_decide_eq_true (by kernel_rfl)) (by unfold Func.isWrapper;first | (rw [if_pos (by decide +kernel)];kernel_rfl) | (rw [if_neg (by decide +kernel)];exact ⟨rfl,rfl⟩))
  (fun os started H enc _=>lifted os started H enc)
theorem proved:Rows.CreepPairsCardSaid :=
 Claim7.holds_tied_plain_at .later [] [.data, .data, .data, .data, .sentinel, .sentinel, .pinned] true (true, "d7fc3c45f4e4238ca3feaa2c3b652861938c68cd51e63af90fb68d5e99d6136d") true
  over (fun _ h=>by cases h) (by kernel_rfl) (fun _ h=>by cases h) creepPairs_row_tie rfl ⟨rfl,rfl⟩ (by kernel_rfl) rfl
  (fun f fn hf hfn=>by
   obtain rfl : f = 4 := Option.some.inj ((show Tryz.prog.funcNamed "gatherum/gatherumlaw19.CreepPairs" = some 4 by kernel_rfl).symm.trans hf) |>.symm
   obtain rfl:fn=Tryz.f4:=(Option.some.inj (Tryz.func4.symm.trans hfn)).symm
   exact ⟨by kernel_rfl,fun j t ht=>by
    rw [Tryz.params4] at ht
    have hm:t∈[29,3]:=by have:=Array.mem_of_getElem? ht;simpa using this
    have hall:([29,3].all fun u=>!Tryz.prog.wantsStandIn u)=true:=by kernel_rfl
    exact (show Tryz.prog.wantsStandIn t=false by simpa using List.all_eq_true.1 hall t hm)⟩)
  (by kernel_rfl)
#print axioms proved
end Go.Proofs.YtbbjileignefbaaGreatDoor.creepPairs
