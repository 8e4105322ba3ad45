/- Part 1 of the texts that the proofs of this seat share: Later, TurnCode, TurnDo, Boxes, RefLow, QuietTail, PlaceCode, TurnRef, TurnMat, TurnMath, PlaceMath, Job, StepSp, SchemeSc, StepAll, SchemeCode, PanelMath, DecPut, DecCode, WordsCode, Texts, SchemeRead, CloneRows, But, Wide, JobAt, NumRow, QuickOrder, AnyOrder, RefPut, SchemeFind, Usual, LiG, UsualKept, OpenCells, StepArg. -/
import Derived.WalkKit
import Derived.Below
import Derived.Deep.QuietTactic
import Derived.BigQuiet
import Derived.Test.YtobpfncglbhcmaaProg
import Derived.WalkSpells
import Derived.WalkLawsBesides
import Derived.Lib.Hide
import Derived.Outline
import Derived.IntWalk
import Derived.Deep.Light
import Derived.Deep.RegionHeld
import Derived.StillTail
import Derived.RowKit3
import Derived.OpenShut
import GoSem.Core.Value
import Derived.OwnWalk
import Derived.Shelf.Strconv.Itoa3
import Derived.Shelf.Strconv.ErrVarAll
import Derived.Shelf.Small.Wraps
import Derived.Shelf.Strings.Split
import Derived.Shelf.Strings.Cut
import Derived.Lib.AppendIntMem
import Derived.Lib.ItoaNum
import Derived.Lib.AtoiAllCases
import Derived.BigCall
import Derived.BigGuard
import Derived.Lib.Walk
import Derived.Laws.DeepStrings4
import Derived.Laws.Concat
import Derived.Lib.AtoiErrMem
import Derived.Deep.AppendLies
import Derived.Laws.OwnMore
import Derived.Laws.IdiomStrings
import Derived.Laws.BytesArg
import Derived.Lib.Strings
import Derived.Lib.Split
import Derived.LoopN
import Derived.Lib.SliceRun
import Derived.Laws.AppendOwn
import Derived.Laws.IdiomCopy
import Derived.RangeFuncBox
import Derived.Deep.Upon
import Derived.Deep.MidRow
import Derived.Laws.Tables
import Derived.KernelRfl
import Derived.Deep.DeepCutAuto
import Derived.RangeFuncNested
import Derived.RangeFuncBound
import Derived.RangeFuncCalls
import Derived.RangeFuncLeaves
import Derived.Shelf.Abstract
import Derived.Shelf.RegionOpen
import Derived.OwnWalkIn
import Derived.TacticsInMore
import Derived.LoopNIn
import Derived.LoopIn
import Derived.Deep.Slices
import Derived.Deep.Fields
import Derived.Lib.SmallJoins
set_option linter.unnecessarySimpa false
set_option linter.unusedSimpArgs false
set_option linter.unusedVariables false
namespace Go.Proofs.Ytobpfncglbhcmaa
open Go.RowKit
theorem bl_cell {w w':World} {p:Addr} {v:Value} (h:Below w.heap.size w w') (hc:w.cell? p=some v):w'.cell? p=some v:=(h.cell (World.block_lt_of_cell? w p hc)).trans hc
theorem up_alloc {a w:World} (h:Below a.heap.size a w) (o:Obj):Below a.heap.size a (w.alloc o):=h.alloc h.size o
theorem up_drew {a w:World} (h:Below a.heap.size a w):Below a.heap.size a w.drew:=h.drew
theorem up_trans {a b c:World} (h:Below a.heap.size a b) (k:Below b.heap.size b c):Below a.heap.size a c:=h.trans (k.mono h.size)
theorem up_set {a w:World} (h:Below a.heap.size a w) {p:Addr} (hp:a.heap.size≤p.block) (u:Value):Below a.heap.size a (w.setCell p u):=h.setCell hp u
theorem kept_marks {W w1:World} (hb:Below W.heap.size W w1) (b o:Nat) (h:b<W.heap.size):w1.frozen? ⟨b,o,none⟩=W.frozen? ⟨b,o,none⟩:=hb.frozen (p:=⟨b,o,none⟩) h
structure Later (w:World) where
 now:World
 up:Below w.heap.size w now
instance (w:World):Nonempty (Later w):=⟨⟨w,Below.refl _ _⟩⟩
theorem Later.cell {w:World} (u:Later w) {p:Addr} {v:Value} (h:w.cell? p=some v):u.now.cell? p=some v:=bl_cell u.up h
theorem Later.call {P:Program} {f:FuncId} {args:Array Value} {w:World} {u:Later w} {v:Value} (h:Calls P f args u.now fun e w'=>e=.returned v∧Below u.now.heap.size u.now w') :
  Calls P f args u.now fun e w''=>e=.returned v∧∃ u':Later w,w''=u'.now:=h.mono fun _ _ ⟨he,hb⟩=>⟨he,⟨_,up_trans u.up hb⟩,rfl⟩
theorem later_start {w:World} {G:World→Prop} (h:∀ u:Later w,G u.now):G w:=h ⟨w,Below.refl _ _⟩
theorem wp_region_later {P:Program} {id:Nat} {Q:Exit→Act→World→Prop} {a:Act} {w:World} {u:Later w} {l:List Oper} (hm:P.follows .mixedOrders=true) (hB:Region.lexB .any l.toArray=true)
  (h:wpQuiet P l.toArray (fun w'=>∃ u:Later w,w'=u.now) (fun a'=>∀ w',(∃ u:Later w,w'=u.now)→Q .normal a' w') l a):(Code.region id l.toArray true).wp P Q a u.now :=
 wp_region_quiet (C:=fun w'=>∃ u:Later w,w'=u.now) hm hB ⟨⟨_,up_drew u.up⟩,rfl⟩ (by simpa using h)
theorem and7 (x:Int):bits .and .i64 x 7=x%8:=by
 have h:(BitVec.ofInt 64 x &&& BitVec.ofInt 64 7).toNat=(x%8).toNat:=by
  rw [BitVec.toNat_and,BitVec.toNat_ofInt,BitVec.toNat_ofInt]
  rw [show ((7:Int)%((2 ^ 64:Nat):Int)).toNat=2 ^ 3-1 by decide,Nat.and_two_pow_sub_one_eq_mod]
  omega
 show IntKind.i64.wrap (((BitVec.ofInt 64 x &&& BitVec.ofInt 64 7).toNat:Nat):Int)=_
 rw [h,IntWalk.i64_in _ (by omega)]
 omega
def neg64 (x:Int):Int:=IntKind.i64.wrap (-x)
def doT (r x y:Int):Int×Int :=
 if r=0 then (x,y) else if r=1 then (neg64 y,x) else if r=2 then (neg64 x,neg64 y) else if r=3 then (y,neg64 x)
 else if r=4 then (neg64 x,y) else if r=5 then (neg64 y,neg64 x) else if r=6 then (x,neg64 y) else (y,x)
def Bx (w:World) (B:Nat) (vs:List Value):Prop:=(∀ j v,vs[j]?=some v→w.cell? ⟨B,j,none⟩=some v)∧∀ j,w.frozen? ⟨B,j,none⟩=false
theorem Bx.cell {w:World} {B:Nat} {vs:List Value} (h:Bx w B vs) (j:Nat) {v:Value} (hj:vs[j]?=some v):w.cell? ⟨B,j,none⟩=some v:=h.1 j v hj
theorem Bx.free {w:World} {B:Nat} {vs:List Value} (h:Bx w B vs) (j:Nat):w.frozen? ⟨B,j,none⟩=false:=h.2 j
theorem Bx.up {w w':World} {B:Nat} {v0:Value} {vs:List Value} (h:Bx w B (v0 :: vs)) (hb:Below w.heap.size w w'):Bx w' B (v0 :: vs) :=
 ⟨fun j v hj=>bl_cell hb (h.1 j v hj),fun j=>(kept_marks hb B j (World.block_lt_of_cell? w _ (h.1 0 v0 rfl))).trans (h.2 j)⟩
theorem Bx.alloc {w:World} {B:Nat} {v0:Value} {vs:List Value} (h:Bx w B (v0 :: vs)) (o:Obj):Bx (w.alloc o) B (v0 :: vs):=h.up (up_alloc (Below.refl _ _) o)
theorem Bx.new (w:World) (t:TypeId) (vs:List Value):Bx (w.alloc (.cells vs.toArray t)) w.heap.size vs:=by
 refine ⟨fun j v hj=>?_,fun j=>?_⟩
 ·have hj':=hj
  obtain ⟨hlt,rfl⟩:=List.getElem?_eq_some_iff.1 hj'
  simp [go_sem,hlt]
 ·simp [go_sem]
theorem Bx.far {w:World} {B:Nat} {vs:List Value} (h:Bx w B vs) {p:Addr} (hp:p.block≠B) (x:Value):Bx (w.setCell p x) B vs :=
 ⟨fun j v hj=>(World.cell?_setCell_far _ _ _ _ hp).trans (h.1 j v hj),fun j=>by simp only [World.frozen?_setCell];exact h.2 j⟩
theorem Bx.set {w:World} {B:Nat} {vs:List Value} (h:Bx w B vs) (i:Nat) (x:Value):Bx (w.setCell ⟨B,i,none⟩ x) B (vs.set i x):=by
 refine ⟨fun j v hj=>?_,fun j=>by simp only [World.frozen?_setCell];exact h.2 j⟩
 rw [List.getElem?_set] at hj
 by_cases e:i=j
 ·subst e
  simp only [if_true] at hj
  split at hj
  ·rename_i hlt
   obtain rfl:=Option.some.inj hj
   exact World.cell?_setCell_same w _ _ (h.1 i _ (List.getElem?_eq_getElem hlt))
  ·cases hj
 ·rw [if_neg e] at hj
  rw [World.cell?_setCell_other _ _ _ _ (by intro k;exact e (by injection k))]
  exact h.1 j v hj
theorem Bx.set3 {w:World} {B:Nat} {a0 a1 a2:Value} (h:Bx w B [a0,a1,a2]) (v0 v1 v2:Value):Bx (((w.setCell ⟨B,0,none⟩ v0).setCell ⟨B,1,none⟩ v1).setCell ⟨B,2,none⟩ v2) B [v0,v1,v2]:=((h.set 0 v0).set 1 v1).set 2 v2
theorem Bx.drew {w:World} {B:Nat} {v0:Value} {vs:List Value} (h:Bx w B (v0 :: vs)):Bx w.drew B (v0 :: vs):=h.up (up_drew (Below.refl _ _))
theorem Bx.lt {w:World} {B:Nat} {v0:Value} {vs:List Value} (h:Bx w B (v0 :: vs)):B<w.heap.size:=World.block_lt_of_cell? w _ (h.1 0 v0 rfl)
theorem high_any (a b:Int) (w:World):Calls Try.prog 26 #[.int .i64 a,.int .i64 b] w fun e w'=>e=.returned (.int .i64 (max a b))∧w'=w:=by
 by_cases h:b<a
 ·have E:=Lib.hid (show max a b=a by omega)
  go_enter Try.func26,Try.ntmps26
  go_wp2
  go_ret
  exact ⟨by rw [E.out];rfl,rfl⟩
 ·have E:=Lib.hid (show max a b=b by omega)
  go_enter Try.func26,Try.ntmps26
  go_wp2
  go_ret
  exact ⟨by rw [E.out];rfl,rfl⟩
theorem low_any (a b:Int) (w:World):Calls Try.prog 25 #[.int .i64 a,.int .i64 b] w fun e w'=>e=.returned (.int .i64 (min a b))∧w'=w:=by
 by_cases h:a<b
 ·have E:=Lib.hid (show min a b=a by omega)
  go_enter Try.func25,Try.ntmps25
  go_wp2
  go_ret
  exact ⟨by rw [E.out];rfl,rfl⟩
 ·have E:=Lib.hid (show min a b=b by omega)
  go_enter Try.func25,Try.ntmps25
  go_wp2
  go_ret
  exact ⟨by rw [E.out];rfl,rfl⟩
theorem high_b (a b:Int) (w:World):Calls Try.prog 26 #[.int .i64 a,.int .i64 b] w fun e w'=>e=.returned (.int .i64 (max a b))∧Below w.heap.size w w' :=
 (high_any a b w).mono fun _ _ ⟨he,hw⟩=>⟨he,by rw [hw];exact Below.refl _ _⟩
theorem low_b (a b:Int) (w:World):Calls Try.prog 25 #[.int .i64 a,.int .i64 b] w fun e w'=>e=.returned (.int .i64 (min a b))∧Below w.heap.size w w' :=
 (low_any a b w).mono fun _ _ ⟨he,hw⟩=>⟨he,by rw [hw];exact Below.refl _ _⟩
end Go.Proofs.Ytobpfncglbhcmaa
namespace Go.Proofs.Ytobpfncglbhcmaa
open Go.RowKit
section
variable {P:Program} {ops:Array Oper} {C:World→Prop}
def headAny (P:Program) (ops:Array Oper) (C:World→Prop) (n:Nat) (L:Array Bool→Act→Prop):Nat→Array Bool→Act→Prop
 | 0,s,a=>L s a
 | f+1,s,a=>Region.ready .any ops s≠[]∧∀ i∈Region.ready .any ops s,i<n∧qOp P ops C i (headAny P ops C n L f (s.setIfInBounds i true)) a
theorem headAny_wp {n g:Nat} {L:Array Bool→Act→Prop} {Q:Exit→Act→World→Prop} (hL:∀ s a w,C w→L s a→wpAny P .any ops Q g s a w) :
  ∀ (f:Nat) (s:Array Bool) (a:Act) (w:World),C w→headAny P ops C n L f s a→wpAny P .any ops Q (f+g) s a w:=by
 intro f
 induction f with
 | zero=>intro s a w hw h;rw [Nat.zero_add];exact hL _ _ _ hw h
 | succ f ih =>
  intro s a w hw h
  rw [show f+1+g=f+g+1 by omega]
  exact ⟨fun h0=>absurd h0 h.1,fun i hi=>wpOp_of_qOp hw (fun a' w' hw' h'=>ih _ a' w' hw' h') (h.2 i hi).2⟩
theorem headAny_swap {n i:Nat} {oi:Oper} {v:Value} {L:Array Bool→Act→Prop} (hi:ops[i]?=some oi) (hsel:∀ (j:Nat) (o:Oper) cs b,ops[j]?=some o→o.op≠.select cs b)
  (hs:Region.sinkB .any ops n=true) (hc:Region.chainB .any ops n=true) (hn:n<ops.size) (hin:i<n) (hdone:∀ s a,L s a→∀ j∈Region.ready .any ops s,n≤j) :
  ∀ (f:Nat) (s:Array Bool) (a:Act),HeadInv .any ops n s →
   (∀ j oj,ops[j]?=some oj→j≠i→s.getD j true=false→(∀ e∈oj.after,Region.binds .any e=true→e.on≠i)→oi.apart ops oj=true) →
   i∈Region.ready .any ops s→YieldsIn P ops C oi v a→headAny P ops C n L f (s.setIfInBounds i true) (a.put oi.dst v)→headAny P ops C n L (f+1) s a:=by
 intro f
 induction f with
 | zero =>
  intro s a inv _ hr hy H
  have inHead:∀ j∈Region.ready .any ops s,j<n:=fun j hj=>Nat.lt_of_not_le fun h=>tail_waits hs hc hn inv _ i rfl hin (mem_ready.1 hr).1 j h hj
  refine ⟨fun h=>(by rw [h] at hr;cases hr),fun j hj=>⟨inHead j hj,?_⟩⟩
  by_cases e:j=i
  ·subst e;exact hy.qOp hi H
  ·exact absurd (hdone _ _ H j (ready_mono hj e)) (by have:=inHead j hj;omega)
 | succ f ih =>
  intro s a inv free hr hy H
  have hun:=(mem_ready.1 hr).1
  have inHead:∀ j∈Region.ready .any ops s,j<n:=fun j hj=>Nat.lt_of_not_le fun h=>tail_waits hs hc hn inv _ i rfl hin hun j h hj
  refine ⟨fun h=>(by rw [h] at hr;cases hr),fun j hj=>⟨inHead j hj,?_⟩⟩
  by_cases e:j=i
  ·subst e;exact hy.qOp hi H
  ·obtain ⟨ju,oj,ho,before⟩:=mem_ready.1 hj
   have waits:∀ x∈oj.after,Region.binds .any x=true→x.on≠i:=fun x hx hb he=>by
    have:=before x hx hb
    rw [he,getD_both hun] at this
    cases this
   refine qOp_mono (fun a' h'=>ih (s.setIfInBounds j true) a' (inv.set hj (inHead j hj)) (fun k ok hk ki hu no=>free k ok hk ki ?_ no) (ready_mono hr (Ne.symm e)) h'.1 ?_)
    (qOp_put ho (free j oj ho e ju waits) (fun cs b=>hsel i oi cs b hi) (fun cs b=>hsel j oj cs b ho) hy (H.2 j (ready_mono hj e)).2)
   ·by_cases jk:j=k
    ·subst jk;exact ju
    ·rwa [getD_set_ne true jk] at hu
   ·rw [Array.setIfInBounds_comm _ _ e];exact h'.2
theorem headAny_lex {n g:Nat} {K:Act→Prop} (hsel:Region.noSelect ops=true) (hs:Region.sinkB .any ops n=true) (hc:Region.chainB .any ops n=true) (hn:n<ops.size) :
  ∀ (l:List Oper) (k:Nat) (s:Array Bool) (a:Act),(∀ j,j<l.length→l[j]?=ops[k+j]?)→k+l.length=n→HeadInv .any ops n s→Region.lexHead .any ops g l.length k s=true→wpQuiet P ops C K l a →
  headAny P ops C n (fun s' a'=>Region.seqB .any ops g n s'=true∧K a') l.length s a:=by
 intro l
 induction l with
 | nil =>
  intro k s a _ hk _ hB h
  obtain rfl:k=n:=by simpa using hk
  exact ⟨by simpa [Region.lexHead] using hB,h⟩
 | cons o l ih =>
  intro k s a hl hk inv hB h
  have h0:ops[k]?=some o:=by simpa using (hl 0 (by simp)).symm
  simp only [List.length_cons,Region.lexHead,Bool.and_eq_true] at hB
  simp only [List.length_cons] at hk
  have hr:k∈Region.ready .any ops s:=by simpa using hB.1.1
  obtain ⟨v,hy,hK⟩:=yieldsIn_of_qOp (K:=wpQuiet P ops C K l) h0 (by unfold qOp;simp only [h0];exact h)
  exact headAny_swap h0 (Region.noSelect_spec hsel) hs hc hn (by omega) (fun s' a' h'=>seqB_ready h'.1) l.length s a inv (Region.free_spec h0 hB.1.2) hr hy
   (ih (k+1) _ _ (fun j hj=>by have:=hl (j+1) (by simp;omega);simpa [Nat.add_assoc,Nat.add_comm 1 j] using this) (by omega) (inv.set hr (by omega)) hB.2 hK)
end
theorem wp_region_head_tail {P:Program} {id:Nat} {C:World→Prop} {Q:Exit→Act→World→Prop} {a:Act} {w:World} {l:List Oper} (n:Nat) (hm:P.follows .mixedOrders=true) (hB:Region.lexTailB .any l.toArray n=true)
  (hC:C w.drew) (h:wpQuiet P l.toArray C (fun a'=>∀ w',C w'→wpList P l.toArray Q (l.drop n) a' w') (l.take n) a):(Code.region id l.toArray true).wp P Q a w:=by
 simp only [Region.lexTailB,Bool.and_eq_true,decide_eq_true_eq] at hB
 obtain ⟨⟨⟨⟨hsel,hn⟩,hs⟩,hc⟩,hlex⟩:=hB
 have hn':n<l.length:=by simpa using hn
 have tl:(l.take n).length=n:=by simp;omega
 have dl:(l.drop n).length=l.toArray.size-n:=by simp
 have H:=headAny_lex (P:=P) (C:=C) (g:=l.toArray.size-n) hsel hs hc hn (l.take n) 0 (Array.replicate l.toArray.size false) a
  (fun j hj=>by rw [tl] at hj;simp [hj]) (by rw [tl];omega)
  ⟨by simp,fun j oj _ hj=>(by rw [getD_replicate_false] at hj;cases hj),fun t _ ht=>getD_in (by simpa using ht) (getD_replicate_false _ _)⟩ (by rw [tl];exact hlex) h
 have G:=headAny_wp (Q:=Q) (g:=l.toArray.size-n) (fun s a' w' hw' hL=>by
  have:=wpAny_of_seq (md:=.any) (Q':=Q) (l.drop n) n s a' w' (fun j=>by simp [List.getElem?_drop]) (by rw [dl];exact hL.1) (hL.2 w' hw')
  rwa [dl] at this) _ _ _ w.drew hC H
 rw [tl,show n+(l.toArray.size-n)=l.toArray.size by omega] at G
 exact wp_region_any hm G
theorem wp_region_later_tail {P:Program} {id:Nat} {Q:Exit→Act→World→Prop} {a:Act} {w:World} {u:Later w} {l:List Oper} (n:Nat) (hm:P.follows .mixedOrders=true) (hB:Region.lexTailB .any l.toArray n=true)
  (h:wpQuiet P l.toArray (fun w'=>∃ u:Later w,w'=u.now) (fun a'=>∀ w',(∃ u:Later w,w'=u.now)→wpList P l.toArray Q (l.drop n) a' w') (l.take n) a):(Code.region id l.toArray true).wp P Q a u.now :=
 wp_region_head_tail n hm hB ⟨⟨_,up_drew u.up⟩,rfl⟩ h
end Go.Proofs.Ytobpfncglbhcmaa
namespace Go.Proofs.Ytobpfncglbhcmaa
open Go.RowKit
def add64 (x y:Int):Int:=IntKind.i64.wrap (x+y)
def pdo (t X Y x y:Int):Int×Int:=(add64 (doT (t%8) x y).1 X,add64 (doT (t%8) x y).2 Y)
theorem flipX_any (s:Int) (w:World):Calls Try.prog 19 #[.int .i64 s] w fun e w'=>e=.returned (.agg #[.int .i64 4,.int .i64 s,.int .i64 0])∧Below w.heap.size w w':=by
 go_enter Try.func19,Try.ntmps19
 go_wp2
 refine bodyPost_ret (v:=.agg #[.int .i64 4,.int .i64 s,.int .i64 0]) (by simp [results,Try.results19,go_sem]) rfl ⟨rfl,?_⟩
 repeat (first | (with_reducible exact Below.refl _ _) | (with_reducible apply up_alloc) | (with_reducible refine up_set ?_ (by simp only;omega) _))
theorem flipY_any (s:Int) (w:World):Calls Try.prog 18 #[.int .i64 s] w fun e w'=>e=.returned (.agg #[.int .i64 6,.int .i64 0,.int .i64 s])∧Below w.heap.size w w':=by
 go_enter Try.func18,Try.ntmps18
 go_wp2
 refine bodyPost_ret (v:=.agg #[.int .i64 6,.int .i64 0,.int .i64 s]) (by simp [results,Try.results18,go_sem]) rfl ⟨rfl,?_⟩
 repeat (first | (with_reducible exact Below.refl _ _) | (with_reducible apply up_alloc) | (with_reducible refine up_set ?_ (by simp only;omega) _))
structure TMx where
 a:Int
 b:Int
 c:Int
 d:Int
def mx (r:Int):TMx :=
 if r=0 then ⟨1,0,0,1⟩ else if r=1 then ⟨0,1,-1,0⟩ else if r=2 then ⟨-1,0,0,-1⟩ else if r=3 then ⟨0,-1,1,0⟩
 else if r=4 then ⟨-1,0,0,1⟩ else if r=5 then ⟨0,-1,-1,0⟩ else if r=6 then ⟨1,0,0,-1⟩ else ⟨0,1,1,0⟩
set_option maxRecDepth 100000 in
set_option maxHeartbeats 1000000 in
theorem refTurnOf_any (t:Int) (w:World) :
  Calls Try.prog 24 #[.int .i64 t] w fun e w'=>e=.returned (.agg #[.int .i64 (mx (t%8)).a,.int .i64 (mx (t%8)).b,.int .i64 (mx (t%8)).c,.int .i64 (mx (t%8)).d])∧Below w.heap.size w w':=by
 have h:=and7 t
 obtain ⟨r,hr⟩:∃ r,t%8=r:=⟨_,rfl⟩
 have hr8:r=0∨r=1∨r=2∨r=3∨r=4∨r=5∨r=6∨r=7:=by omega
 rw [hr] at h ⊢
 clear hr
 rcases hr8 with rfl | rfl | rfl | rfl | rfl | rfl | rfl | rfl
 ·go_enter Try.func24,Try.ntmps24
  go_wp2
  refine wp_loop_rounds 1 ?_
  rw [rounds_succ]
  go_wp2
  refine bodyPost_ret (v:=.agg #[.int .i64 1,.int .i64 0,.int .i64 0,.int .i64 1]) (by simp [results,Try.results24,go_sem]) rfl ⟨rfl,?_⟩
  repeat (first | exact Below.refl _ _ | apply up_alloc | (refine up_set ?_ (by simp) _))
 ·go_enter Try.func24,Try.ntmps24
  go_wp2
  refine wp_loop_rounds 2 ?_
  rw [rounds_succ]
  go_wp2
  rw [rounds_succ]
  go_wp2
  refine bodyPost_ret (v:=.agg #[.int .i64 0,.int .i64 1,.int .i64 (-1),.int .i64 0]) (by simp [results,Try.results24,go_sem]) rfl ⟨rfl,?_⟩
  repeat (first | exact Below.refl _ _ | apply up_alloc | (refine up_set ?_ (by simp) _))
 ·go_enter Try.func24,Try.ntmps24
  go_wp2
  refine wp_loop_rounds 3 ?_
  rw [rounds_succ]
  go_wp2
  rw [rounds_succ]
  go_wp2
  rw [rounds_succ]
  go_wp2
  refine bodyPost_ret (v:=.agg #[.int .i64 (-1),.int .i64 0,.int .i64 0,.int .i64 (-1)]) (by simp [results,Try.results24,go_sem]) rfl ⟨rfl,?_⟩
  repeat (first | exact Below.refl _ _ | apply up_alloc | (refine up_set ?_ (by simp) _))
 ·go_enter Try.func24,Try.ntmps24
  go_wp2
  refine wp_loop_rounds 4 ?_
  rw [rounds_succ]
  go_wp2
  rw [rounds_succ]
  go_wp2
  rw [rounds_succ]
  go_wp2
  rw [rounds_succ]
  go_wp2
  refine bodyPost_ret (v:=.agg #[.int .i64 0,.int .i64 (-1),.int .i64 1,.int .i64 0]) (by simp [results,Try.results24,go_sem]) rfl ⟨rfl,?_⟩
  repeat (first | exact Below.refl _ _ | apply up_alloc | (refine up_set ?_ (by simp) _))
 ·go_enter Try.func24,Try.ntmps24
  go_wp2
  refine wp_loop_rounds 1 ?_
  rw [rounds_succ]
  go_wp2
  refine bodyPost_ret (v:=.agg #[.int .i64 (-1),.int .i64 0,.int .i64 0,.int .i64 1]) (by simp [results,Try.results24,go_sem]) rfl ⟨rfl,?_⟩
  repeat (first | exact Below.refl _ _ | apply up_alloc | (refine up_set ?_ (by simp) _))
 ·go_enter Try.func24,Try.ntmps24
  go_wp2
  refine wp_loop_rounds 2 ?_
  rw [rounds_succ]
  go_wp2
  rw [rounds_succ]
  go_wp2
  refine bodyPost_ret (v:=.agg #[.int .i64 0,.int .i64 (-1),.int .i64 (-1),.int .i64 0]) (by simp [results,Try.results24,go_sem]) rfl ⟨rfl,?_⟩
  repeat (first | exact Below.refl _ _ | apply up_alloc | (refine up_set ?_ (by simp) _))
 ·go_enter Try.func24,Try.ntmps24
  go_wp2
  refine wp_loop_rounds 3 ?_
  rw [rounds_succ]
  go_wp2
  rw [rounds_succ]
  go_wp2
  rw [rounds_succ]
  go_wp2
  refine bodyPost_ret (v:=.agg #[.int .i64 1,.int .i64 0,.int .i64 0,.int .i64 (-1)]) (by simp [results,Try.results24,go_sem]) rfl ⟨rfl,?_⟩
  repeat (first | exact Below.refl _ _ | apply up_alloc | (refine up_set ?_ (by simp) _))
 ·go_enter Try.func24,Try.ntmps24
  go_wp2
  refine wp_loop_rounds 4 ?_
  rw [rounds_succ]
  go_wp2
  rw [rounds_succ]
  go_wp2
  rw [rounds_succ]
  go_wp2
  rw [rounds_succ]
  go_wp2
  refine bodyPost_ret (v:=.agg #[.int .i64 0,.int .i64 1,.int .i64 1,.int .i64 0]) (by simp [results,Try.results24,go_sem]) rfl ⟨rfl,?_⟩
  repeat (first | exact Below.refl _ _ | apply up_alloc | (refine up_set ?_ (by simp) _))
def mdo (m:TMx) (x y:Int):Int×Int:=(IntKind.i64.wrap (IntKind.i64.wrap (m.a*x)+IntKind.i64.wrap (m.c*y)),IntKind.i64.wrap (IntKind.i64.wrap (m.b*x)+IntKind.i64.wrap (m.d*y)))
theorem up_drewNt {a w:World} (h:Below a.heap.size a w) (n:Nat):Below a.heap.size a (w.drewN n):=by
 induction n with
 | zero=>exact h
 | succ n ih=>exact up_drew ih
theorem refDo_w (m:TMx) (x y:Int) (w:World) :
  Calls Try.prog 23 #[.agg #[.int .i64 m.a,.int .i64 m.b,.int .i64 m.c,.int .i64 m.d],.int .i64 x,.int .i64 y] w fun e w'=>e=.returned (.tuple #[.int .i64 (mdo m x y).1,.int .i64 (mdo m x y).2])∧∃ n,w'=(w.alloc (.cells #[.int .i64 m.a,.int .i64 m.b,.int .i64 m.c,.int .i64 m.d] 49)).drewN n:=by
 obtain ⟨a,b,c,d⟩:=m
 unfold mdo
 simp only
 obtain ⟨p1,h1⟩:∃ p,IntKind.i64.wrap (a*x)=p:=⟨_,rfl⟩
 obtain ⟨p2,h2⟩:∃ p,IntKind.i64.wrap (c*y)=p:=⟨_,rfl⟩
 obtain ⟨p3,h3⟩:∃ p,IntKind.i64.wrap (b*x)=p:=⟨_,rfl⟩
 obtain ⟨p4,h4⟩:∃ p,IntKind.i64.wrap (d*y)=p:=⟨_,rfl⟩
 rw [h1,h2,h3,h4]
 obtain ⟨s1,k1⟩:∃ p,IntKind.i64.wrap (p1+p2)=p:=⟨_,rfl⟩
 obtain ⟨s2,k2⟩:∃ p,IntKind.i64.wrap (p3+p4)=p:=⟨_,rfl⟩
 rw [k1,k2]
 go_enter Try.func23,Try.ntmps23
 go_wp2_with fail
 go_quiet (fail)
 go_wp2
 go_ret2
 exact ⟨rfl,_,rfl⟩
theorem refDo_any (m:TMx) (x y:Int) (w:World) :
  Calls Try.prog 23 #[.agg #[.int .i64 m.a,.int .i64 m.b,.int .i64 m.c,.int .i64 m.d],.int .i64 x,.int .i64 y] w fun e w'=>e=.returned (.tuple #[.int .i64 (mdo m x y).1,.int .i64 (mdo m x y).2])∧Below w.heap.size w w' :=
 (refDo_w m x y w).mono fun _ _ ⟨he,n,hw⟩=>⟨he,by rw [hw];exact up_drewNt (up_alloc (Below.refl _ _) _) n⟩
def CM4 (w:World) (B:Nat) (a0 a1 a2 a3:Int):Prop:=w.cell? ⟨B,0,none⟩=some (.int .i64 a0)∧w.cell? ⟨B,1,none⟩=some (.int .i64 a1)∧w.cell? ⟨B,2,none⟩=some (.int .i64 a2)∧w.cell? ⟨B,3,none⟩=some (.int .i64 a3)
theorem CM4.up {w w':World} {B:Nat} {a0 a1 a2 a3:Int} (h:CM4 w B a0 a1 a2 a3) (hb:Below w.heap.size w w'):CM4 w' B a0 a1 a2 a3:=⟨bl_cell hb h.1,bl_cell hb h.2.1,bl_cell hb h.2.2.1,bl_cell hb h.2.2.2⟩
theorem fin8 (a:Int):∃ i:Fin 8,a%8=(i.val:Int):=⟨⟨(a%8).toNat,by omega⟩,by simp;omega⟩
theorem mat_does (i:Fin 8) (x y:Int) (h0:-9223372036854775808≤x) (h1:x≤9223372036854775807) (k0:-9223372036854775808≤y) (k1:y≤9223372036854775807):mdo (mx (i.val:Int)) x y=doT (i.val:Int) x y:=by
 have H:∀ r:Int,(r=0∨r=1∨r=2∨r=3∨r=4∨r=5∨r=6∨r=7)→mdo (mx r) x y=doT r x y:=by
  intro r hr
  rcases hr with rfl | rfl | rfl | rfl | rfl | rfl | rfl | rfl
  all_goals
   simp only [mdo,mx,doT,neg64,IntKind.wrap_i64]
   refine Prod.ext ?_ ?_<;>simp<;>omega
 have hi:=i.isLt
 exact H _ (by omega)
def n1 (r:Int):Bool:=r==1 || r==2 || r==4 || r==5
def cellJ (i:Nat):Nat:=if i<11 then i+1 else i+5
def jobL (t:ByteArray) (n:Nat→Int) (c r:Int) (fv lv:Value):List Value :=
 .string t :: .int .i64 (n 0) :: .int .i64 (n 1) :: .int .i64 (n 2) :: .int .i64 (n 3) :: .int .i64 (n 4) :: .int .i64 (n 5) :: .int .i64 (n 6) :: .int .i64 (n 7) :: .int .i64 (n 8) :: .int .i64 (n 9) :: .int .i64 (n 10) :: .int .i64 c :: .int .i64 r :: fv :: lv :: .int .i64 (n 11) :: .int .i64 (n 12) :: .int .i64 (n 13) :: .int .i64 (n 14) :: .int .i64 (n 15) :: .int .i64 (n 16) :: .int .i64 (n 17) :: .int .i64 (n 18) :: .int .i64 (n 19) :: .int .i64 (n 20) :: .int .i64 (n 21) :: .int .i64 (n 22) :: .int .i64 (n 23) :: .int .i64 (n 24) :: .int .i64 (n 25) :: .int .i64 (n 26) :: .int .i64 (n 27) :: []
theorem jobL_length (t:ByteArray) (n:Nat→Int) (c r:Int) (fv lv:Value):(jobL t n c r fv lv).length=33:=rfl
theorem num_ways {i:Nat} (h:i<28):i=0∨i=1∨i=2∨i=3∨i=4∨i=5∨i=6∨i=7∨i=8∨i=9∨i=10∨i=11∨i=12∨i=13∨i=14∨i=15∨i=16∨i=17∨i=18∨i=19∨i=20∨i=21∨i=22∨i=23∨i=24∨i=25∨i=26∨i=27:=by omega
theorem job_at (t:ByteArray) (n:Nat→Int) (c r:Int) (fv lv:Value) {i:Nat} (h:i<28):(jobL t n c r fv lv)[cellJ i]?=some (.int .i64 (n i)):=by
 rcases num_ways h with rfl | rfl | rfl | rfl | rfl | rfl | rfl | rfl | rfl | rfl | rfl | rfl | rfl | rfl | rfl | rfl | rfl | rfl | rfl | rfl | rfl | rfl | rfl | rfl | rfl | rfl | rfl | rfl<;>rfl
def setN (n:Nat→Int) (i:Nat) (z:Int):Nat→Int:=fun j=>if j=i then z else n j
theorem job_set (t:ByteArray) (n:Nat→Int) (c r:Int) (fv lv:Value) {i:Nat} (h:i<28) (z:Int):(jobL t n c r fv lv).set (cellJ i) (.int .i64 z)=jobL t (setN n i z) c r fv lv:=by
 rcases num_ways h with rfl | rfl | rfl | rfl | rfl | rfl | rfl | rfl | rfl | rfl | rfl | rfl | rfl | rfl | rfl | rfl | rfl | rfl | rfl | rfl | rfl | rfl | rfl | rfl | rfl | rfl | rfl | rfl<;>rfl
theorem job_one (t:ByteArray) (n:Nat→Int) (c r:Int) (a:Option Addr) (k d:Nat) (a':Option Addr) (k' d':Nat):(jobL t n c r (.slice a k d) (.slice a' k' d')).toArray.all (·.oneCell')=true:=by
 rw [List.all_toArray];rfl
def numsL (n:Nat→Int):List Int:=(List.range 28).map n
end Go.Proofs.Ytobpfncglbhcmaa
namespace Go.Proofs.Ytobpfncglbhcmaa
structure Sp where
 d:Int
 n:Int
 u:Bool
deriving DecidableEq
structure Sc where
 c:Int
 r:Int
 l:List Sp
deriving DecidableEq
end Go.Proofs.Ytobpfncglbhcmaa
namespace Go.Proofs.Ytobpfncglbhcmaa
open Go.RowKit
def InS (w:World) (b off:Nat) (l:List Sp):Prop:=∀ j p,l[j]?=some p→w.cell? ⟨b,off+j*3,none⟩=some (.int .i64 p.d)∧w.cell? ⟨b,off+j*3+1,none⟩=some (.int .i64 p.n)∧w.cell? ⟨b,off+j*3+2,none⟩=some (.bool p.u)
theorem InS.up {w w':World} {b off:Nat} {l:List Sp} (h:InS w b off l) (hb:Below w.heap.size w w'):InS w' b off l:=fun j p hp=>by
 obtain ⟨c0,c1,c2⟩:=h j p hp
 exact ⟨bl_cell hb c0,bl_cell hb c1,bl_cell hb c2⟩
def InL (w:World) (a:Option Addr) (l:List Sp):Prop:=l=[]∨∃ b off,a=some ⟨b,off,none⟩∧InS w b off l
theorem InL.up {w w':World} {a:Option Addr} {l:List Sp} (h:InL w a l) (hb:Below w.heap.size w w'):InL w' a l:=h.imp id fun ⟨b,off,e,h⟩=>⟨b,off,e,h.up hb⟩
def w64 (x:Int):Int:=IntKind.i64.wrap x
theorem w64_same {x y:Int} (h:(x-y)%18446744073709551616=0):w64 x=w64 y:=by
 unfold w64
 simp only [IntKind.wrap_i64]
 omega
theorem w64_rounds (x:Int):(w64 x-x)%18446744073709551616=0:=by
 unfold w64
 simp only [IntKind.wrap_i64]
 omega
theorem w64_in (x:Int):-9223372036854775808≤w64 x∧w64 x≤9223372036854775807:=by
 unfold w64
 simp only [IntKind.wrap_i64]
 omega
theorem w64_self {x:Int} (h:-9223372036854775808≤x∧x≤9223372036854775807):w64 x=x:=by
 unfold w64
 simp only [IntKind.wrap_i64]
 omega
theorem w64_addL (x y:Int):w64 (w64 x+y)=w64 (x+y):=w64_same (by have:=w64_rounds x;omega)
def I64 (x:Int):Prop:=-9223372036854775808≤x∧x≤9223372036854775807
end Go.Proofs.Ytobpfncglbhcmaa
namespace Go.Proofs.Ytobpfncglbhcmaa
open Go.Shelf
open Go.RowKit
def Tab (w : World) : Prop := Lib.TabIs Try.prog w "internal/strconv.uint64pow10" .u64 Lib.pow10Tab
theorem var_below {P:Program} {w w':World} {name:String} {cs:Array Value} (h:w.var? P name=some cs) (hb:Below w.heap.size w w'):w'.var? P name=some cs:=by
 unfold World.var? at *
 cases hg:P.globalNamed name with
 | none=>simp [hg] at h
 | some g =>
  simp only [hg,Option.bind_some] at h ⊢
  have hlt:g<w.heap.size:=by
   rcases Nat.lt_or_ge g w.heap.size with h' | h'
   ·exact h'
   ·simp [Array.getElem?_eq_none h'] at h
  rw [hb.block g hlt]
  exact h
theorem Tab.below {w w':World} (h:Tab w) (hb:Below w.heap.size w w'):Tab w':=var_below h hb
def Good (w:World):Prop :=
 Tab w ∧
 (∃ tp p, w.var? Try.prog "strconv.ErrSyntax" = some #[.iface tp p]) ∧ (∃ tp p, w.var? Try.prog "strconv.ErrRange" = some #[.iface tp p])
theorem Good.below {w w':World} (h:Good w) (hb:Below w.heap.size w w'):Good w':=by
 obtain ⟨a,⟨t1,p1,b⟩,t2,p2,c⟩:=h
 exact ⟨var_below a hb,⟨t1,p1,var_below b hb⟩,t2,p2,var_below c hb⟩
end Go.Proofs.Ytobpfncglbhcmaa
namespace Go.Proofs.Ytobpfncglbhcmaa
open Go.RowKit
def InG (w:World) (g:Nat) (l:List ByteArray):Prop:=∀ i p,l[i]?=some p→w.cell? ⟨g,i,none⟩=some (.string p)
theorem InG.up {w w':World} {g:Nat} {l:List ByteArray} (h:InG w g l) (hb:Below w.heap.size w w'):InG w' g l:=fun i p hp=>bl_cell hb (h i p hp)
def Strs (w:World) (v:Value) (m:Nat) (l:List ByteArray):Prop:=l.length=m∧((m=0∧v=.slice none 0 0)∨∃ g,0<m∧v=.slice (some ⟨g,0,none⟩) m m∧InG w g l)
theorem Strs.up {w w':World} {v:Value} {m:Nat} {l:List ByteArray} (h:Strs w v m l) (hb:Below w.heap.size w w'):Strs w' v m l:=by
 obtain ⟨h0,h1 | ⟨g,h1,h2,h3⟩⟩:=h
 ·exact ⟨h0,.inl h1⟩
 ·exact ⟨h0,.inr ⟨g,h1,h2,h3.up hb⟩⟩
def tx (l:List UInt8):ByteArray:=⟨l.toArray⟩
theorem tx_data (s:ByteArray):tx s.data.toList=s:=by simp [tx]
theorem size_data (s:ByteArray):s.data.toList.length=s.size:=Array.length_toList
def TxS (w:World) (v:Value) (ls:List (List UInt8)):Prop :=
 ∃ a c,v=.slice a ls.length c∧(ls=[]∨∃ g,a=some ⟨g,0,none⟩∧(∀ i l,ls[i]?=some l→w.cell? ⟨g,i,none⟩=some (.string (tx l)))∧ls.length≤c∧c≤maxLen)
theorem TxS.up {w w':World} {v:Value} {ls:List (List UInt8)} (h:TxS w v ls) (hb:Below w.heap.size w w'):TxS w' v ls:=by
 obtain ⟨a,c,h1,h2 | ⟨g,h2,h3,h4⟩⟩:=h
 ·exact ⟨a,c,h1,.inl h2⟩
 ·exact ⟨a,c,h1,.inr ⟨g,h2,fun i l hi=>bl_cell hb (h3 i l hi),h4⟩⟩
theorem TxS.nil (w:World):TxS w (.slice none 0 0) []:=⟨none,0,rfl,.inl rfl⟩
theorem TxS.cell {w:World} {a:Option Addr} {n c:Nat} {ls:List (List UInt8)} (h:TxS w (.slice a n c) ls) (h0:0<n):ls.length=n∧∃ g,a=some ⟨g,0,none⟩∧∀ i l,ls[i]?=some l→w.cell? ⟨g,i,none⟩=some (.string (tx l)):=by
 obtain ⟨a',c',h1,h2⟩:=h
 injection h1 with e1 e2 e3
 subst e1 e2
 refine ⟨rfl,?_⟩
 rcases h2 with rfl | ⟨g,h2,h3,_⟩
 ·simp at h0
 ·exact ⟨g,h2,h3⟩
def rowT (w:World) (base:Nat) (v:Value) (ls:List (List UInt8)):Prop:=w.ownsRow base 9 1 v ls.length (ls.map fun l=>.string (tx l))
theorem own_kept {w w':World} {base:Nat} {e:TypeId} {z n:Nat} {v:Value} {xs:List Value} (h:w.ownsRow base e z v n xs) (hb:∀ k,base≤k→k<w.heap.size→w'.heap[k]?=w.heap[k]?):w'.ownsRow base e z v n xs:=by
 obtain ⟨h0,h | ⟨g,cap,cur,h1,h2,h3,h4⟩⟩:=h
 ·exact ⟨h0,.inl h⟩
 ·exact ⟨h0,.inr ⟨g,cap,cur,h1,h2,(hb g h2 (Array.getElem?_eq_some_iff.1 h3).1).trans h3,h4⟩⟩
theorem rowT.kept {w w':World} {base:Nat} {v:Value} {ls:List (List UInt8)} (h:rowT w base v ls) (hb:∀ k,base≤k→k<w.heap.size→w'.heap[k]?=w.heap[k]?):rowT w' base v ls:=own_kept h hb
theorem rowT.up {w w':World} {base:Nat} {v:Value} {ls:List (List UInt8)} (h:rowT w base v ls) (hb:Below w.heap.size w w'):rowT w' base v ls:=h.kept fun k _ hk=>hb.block k hk
def encO (l:List UInt8):List Value:=l.map fun c=>.int .u8 (c.toNat:Int)
def rowB (w:World) (base:Nat) (v:Value) (l:List UInt8):Prop:=w.ownsRow base 5 1 v l.length (encO l)
theorem rowB.kept {w w':World} {base:Nat} {v:Value} {l:List UInt8} (h:rowB w base v l) (hb:∀ k,base≤k→k<w.heap.size→w'.heap[k]?=w.heap[k]?):rowB w' base v l:=own_kept h hb
theorem rowB.up {w w':World} {base:Nat} {v:Value} {l:List UInt8} (h:rowB w base v l) (hb:Below w.heap.size w w'):rowB w' base v l:=h.kept fun k _ hk=>hb.block k hk
def flatS:List Sp→List Value
 | []=>[]
 | p :: l=>.int .i64 p.d :: .int .i64 p.n :: .bool p.u :: flatS l
theorem flatS_at (l:List Sp):∀ (j:Nat) (p:Sp),l[j]?=some p→(flatS l)[j*3]?=some (.int .i64 p.d)∧(flatS l)[j*3+1]?=some (.int .i64 p.n)∧(flatS l)[j*3+2]?=some (.bool p.u):=by
 induction l with
 | nil=>intro j p h;simp at h
 | cons q l ih =>
  intro j p h
  cases j with
  | zero=>simp at h;subst h;exact ⟨rfl,rfl,rfl⟩
  | succ j =>
   obtain ⟨h0,h1,h2⟩:=ih j p (by simpa using h)
   have e:(j+1)*3=j*3+1+1+1:=by omega
   rw [e]
   refine ⟨?_,?_,?_⟩
   ·simpa [flatS] using h0
   ·simpa [flatS] using h1
   ·simpa [flatS] using h2
def rowP (w:World) (base:Nat) (v:Value) (l:List Sp):Prop:=w.ownsRow base 53 3 v l.length (flatS l)
theorem rowP.kept {w w':World} {base:Nat} {v:Value} {l:List Sp} (h:rowP w base v l) (hb:∀ k,base≤k→k<w.heap.size→w'.heap[k]?=w.heap[k]?):rowP w' base v l:=own_kept h hb
theorem rowP.up {w w':World} {base:Nat} {v:Value} {l:List Sp} (h:rowP w base v l) (hb:Below w.heap.size w w'):rowP w' base v l:=h.kept fun k _ hk=>hb.block k hk
theorem rowP.steps {w:World} {base:Nat} {v:Value} {l:List Sp} (h:rowP w base v l):∃ a cap,v=.slice a l.length cap∧InL w a l:=by
 rcases h.2 with ⟨rfl,h0⟩ | ⟨g,cap,cur,rfl,hb,hg,hcap,hmax,hsz,htk⟩
 ·exact ⟨none,0,by rw [h0],.inl (List.eq_nil_of_length_eq_zero h0)⟩
 ·refine ⟨some ⟨g,0,none⟩,cap,rfl,.inr ⟨g,0,rfl,fun j p hp=>?_⟩⟩
  obtain ⟨h0,h1,h2⟩:=flatS_at l j p hp
  have e:∀ i,(⟨g,0,none⟩:Addr).add i=⟨g,i,none⟩:=fun i=>by unfold Addr.add;split<;>simp_all
  have c0:=h.cells (g:=g) rfl _ _ h0
  have c1:=h.cells (g:=g) rfl _ _ h1
  have c2:=h.cells (g:=g) rfl _ _ h2
  rw [e] at c0 c1 c2
  simpa using ⟨c0,c1,c2⟩
theorem rowP.inL {w:World} {base:Nat} {a:Option Addr} {n c:Nat} {l:List Sp} (h:rowP w base (.slice a n c) l):InL w a l:=by
 obtain ⟨a',c',e,hL⟩:=h.steps
 injection e with e1 e2 e3
 rw [e1]
 exact hL
def InF (base:Nat) (w:World) (a:Option Addr) (l:List Sp):Prop:=l=[]∨∃ b off,a=some ⟨b,off,none⟩∧base≤b∧InS w b off l
theorem InF.inL {base:Nat} {w:World} {a:Option Addr} {l:List Sp} (h:InF base w a l):InL w a l:=h.imp id fun ⟨b,off,e,_,h⟩=>⟨b,off,e,h⟩
theorem InF.mono {base base':Nat} {w:World} {a:Option Addr} {l:List Sp} (h:InF base w a l) (hb:base'≤base):InF base' w a l:=h.imp id fun ⟨b,off,e,h0,h⟩=>⟨b,off,e,by omega,h⟩
theorem InF.up {base:Nat} {w w':World} {a:Option Addr} {l:List Sp} (h:InF base w a l) (hb:Below w.heap.size w w'):InF base w' a l:=h.imp id fun ⟨b,off,e,h0,h⟩=>⟨b,off,e,h0,h.up hb⟩
theorem InF.set {base:Nat} {w:World} {a:Option Addr} {l:List Sp} (h:InF base w a l) {p:Addr} (hp:p.block<base) (x:Value):InF base (w.setCell p x) a l:=h.imp id fun ⟨b,off,e,h0,h⟩=>⟨b,off,e,h0,fun j q hq=>by
 obtain ⟨c0,c1,c2⟩:=h j q hq
 have hf:∀ o v,w.cell? ⟨b,o,none⟩=some v→(w.setCell p x).cell? ⟨b,o,none⟩=some v:=fun o v hv=>(World.cell?_setCell_far _ _ _ _ (by simp only;omega)).trans hv
 exact ⟨hf _ _ c0,hf _ _ c1,hf _ _ c2⟩⟩
theorem rowP.set {w:World} {base:Nat} {v:Value} {l:List Sp} (h:rowP w base v l) {p:Addr} (hp:p.block<base) (x:Value):rowP (w.setCell p x) base v l:=h.kept fun j hj _=>Below.heap_setCell _ _ _ _ (by omega)
def TxA (w:World) (a:Option Addr) (c:Nat) (ls:List (List UInt8)):Prop :=
 ls=[]∨∃ g o,a=some ⟨g,o,none⟩∧(∀ i l,ls[i]?=some l→w.cell? ⟨g,o+i,none⟩=some (.string (tx l)))∧ls.length≤c∧c≤maxLen
theorem TxA.up {w w':World} {a:Option Addr} {c:Nat} {ls:List (List UInt8)} (h:TxA w a c ls) (hb:Below w.heap.size w w'):TxA w' a c ls:=by
 rcases h with h | ⟨g,o,h1,h2,h3⟩
 ·exact .inl h
 ·exact .inr ⟨g,o,h1,fun i l hi=>bl_cell hb (h2 i l hi),h3⟩
theorem TxS.arg {w:World} {v:Value} {ls:List (List UInt8)} (h:TxS w v ls):∃ a c,v=.slice a ls.length c∧TxA w a c ls:=by
 obtain ⟨a,c,rfl,h⟩:=h
 refine ⟨a,c,rfl,?_⟩
 rcases h with h | ⟨g,h1,h2,h3⟩
 ·exact .inl h
 ·exact .inr ⟨g,0,h1,fun i l hi=>by rw [Nat.zero_add];exact h2 i l hi,h3⟩
end Go.Proofs.Ytobpfncglbhcmaa
namespace Go.Proofs.Ytobpfncglbhcmaa
open Go.RowKit Go.Lib
def TxF (base:Nat) (w:World) (a:Option Addr) (c:Nat) (ls:List (List UInt8)):Prop :=
 ls=[]∨∃ g o,a=some ⟨g,o,none⟩∧base≤g∧(∀ i l,ls[i]?=some l→w.cell? ⟨g,o+i,none⟩=some (.string (tx l)))∧ls.length≤c∧c≤maxLen
theorem TxF.arg {base:Nat} {w:World} {a:Option Addr} {c:Nat} {ls:List (List UInt8)} (h:TxF base w a c ls):TxA w a c ls:=h.imp id fun ⟨g,o,e,_,h⟩=>⟨g,o,e,h⟩
theorem TxF.up {base:Nat} {w w':World} {a:Option Addr} {c:Nat} {ls:List (List UInt8)} (h:TxF base w a c ls) (hb:Below w.heap.size w w'):TxF base w' a c ls:=h.imp id fun ⟨g,o,e,h0,h,h2⟩=>⟨g,o,e,h0,fun i l hi=>bl_cell hb (h i l hi),h2⟩
theorem TxF.mono {base base':Nat} {w:World} {a:Option Addr} {c:Nat} {ls:List (List UInt8)} (h:TxF base w a c ls) (hb:base'≤base):TxF base' w a c ls:=h.imp id fun ⟨g,o,e,h0,h⟩=>⟨g,o,e,by omega,h⟩
theorem TxF.keep {base B:Nat} {w w':World} {a:Option Addr} {c:Nat} {ls:List (List UInt8)} (h:TxF base w a c ls) (hB:B<base) (hk:∀ p:Addr,p.block≠B→∀ v,w.cell? p=some v→w'.cell? p=some v):TxF base w' a c ls :=
 h.imp id fun ⟨g,o,e,h0,h,h2⟩=>⟨g,o,e,h0,fun i l hi=>hk _ (by simp only;omega) _ (h i l hi),h2⟩
theorem InF.keep {base B:Nat} {w w':World} {a:Option Addr} {l:List Sp} (h:InF base w a l) (hB:B<base) (hk:∀ p:Addr,p.block≠B→∀ v,w.cell? p=some v→w'.cell? p=some v):InF base w' a l :=
 h.imp id fun ⟨b,off,e,h0,h⟩=>⟨b,off,e,h0,fun j q hq=>by
  obtain ⟨c0,c1,c2⟩:=h j q hq
  exact ⟨hk _ (by simp only;omega) _ c0,hk _ (by simp only;omega) _ c1,hk _ (by simp only;omega) _ c2⟩⟩
end Go.Proofs.Ytobpfncglbhcmaa
namespace Go.Proofs.Ytobpfncglbhcmaa
open Go.RowKit
structure But (D R:Nat) (w w':World):Prop where
 os:w'.os=w.os
 tape:w'.tape=w.tape
 output:w'.output=w.output
 size:w.heap.size≤w'.heap.size
 block:∀ k,k<w.heap.size→k≠D→k≠R→w'.heap[k]?=w.heap[k]?
theorem But.of {D R:Nat} {w w':World} (h:Below w.heap.size w w'):But D R w w':=⟨h.os,h.tape,h.output,h.size,fun k hk _ _=>h.block k hk⟩
theorem But.refl (D R:Nat) (w:World):But D R w w:=But.of (Below.refl _ _)
theorem But.trans {D R R':Nat} {w w' w'':World} (h:But D R w w') (k:But D R' w' w'') (hR:R'=D∨R'=R∨w.heap.size≤R'):But D R w w'' :=
 ⟨k.os.trans h.os,k.tape.trans h.tape,k.output.trans h.output,Nat.le_trans h.size k.size,fun j hj h1 h2=>(k.block j (Nat.lt_of_lt_of_le hj h.size) h1 (by rcases hR with r | r | r<;>omega)).trans (h.block j hj h1 h2)⟩
theorem But.set {D R:Nat} {w w':World} (h:But D R w w') (o:Nat) (v:Value):But D R w (w'.setCell ⟨D,o,none⟩ v) :=
 ⟨h.os,h.tape,h.output,by have:=h.size;simpa [World.setCell] using this,fun k hk h1 h2=>(Below.heap_setCell _ _ _ _ h1).trans (h.block k hk h1 h2)⟩
theorem But.below {D R B:Nat} {w w':World} (h:But D R w w') (hB:B≤w.heap.size) (h1:B≤D) (h2:B≤R):Below B w w':=⟨h.os,h.tape,h.output,h.size,fun k hk=>h.block k (by omega) (by omega) (by omega)⟩
end Go.Proofs.Ytobpfncglbhcmaa
namespace Go.Proofs.Ytobpfncglbhcmaa
open Go.RowKit
section
variable {P:Program} {ops:Array Oper} {rest:List Oper} {o:Oper} {a:Act} {w:World} {Q:Exit→Act→World→Prop}
theorem wpList_alloc_to (hg:o.guard=none) (ty:TypeId) (ho:o.op=.alloc ty) (v:Value) (w':World) (hr:(Instr.alloc ty true (.tuple #[])).run P w=.ok v w') (h:wpList P ops Q rest (a.put o.dst v) w'):wpList P ops Q (o :: rest) a w :=
 wpList_plain hg fun _ hK=>by
  unfold Oper.wp execOp
  simp only [ho,Sem.run_bind,hr,Result.andThen_ok]
  exact hK _ _ h
theorem wpList_build_to (hg:o.guard=none) (t:TypeId) (parts:Array (Nat×Operand)) (ho:o.op=.build t parts) (cells:Array Value) (hc:P.built t (parts.map fun (i,x)=>(i,a.eval x)).toList=some cells) (h:wpList P ops Q rest (a.put o.dst (.agg cells)) w):wpList P ops Q (o :: rest) a w :=
 wpList_build hg t parts ho (by rw [hc];rfl) (by rw [hc];exact h)
end
theorem Bx.range {w:World} {B:Nat} {vs:List Value} (h:Bx w B vs):w.rangeAt B 0 vs:=fun j v hj=>by rw [Nat.zero_add];exact h.1 j v hj
theorem Bx.present {w:World} {B:Nat} {vs:List Value} (h:Bx w B vs):w.there B 0 vs.length:=fun j hj=>by
 rw [Nat.zero_add]
 exact ⟨by rw [h.1 j _ (List.getElem?_eq_getElem hj)];rfl,h.2 j⟩
theorem Bx.lowE {w:World} {B:Nat} {vs:List Value} (h:Bx w B vs) (h0:0<vs.length):B<w.heap.size:=World.block_lt_of_cell? w _ (h.1 0 _ (List.getElem?_eq_getElem h0))
theorem Bx.later {w w':World} {B:Nat} {vs:List Value} (h:Bx w B vs) (h0:0<vs.length) (hb:Below w.heap.size w w'):Bx w' B vs :=
 ⟨fun j v hj=>bl_cell hb (h.1 j v hj),fun j=>(kept_marks hb B j (h.lowE h0)).trans (h.2 j)⟩
theorem Bx.sets {w:World} {B:Nat} {vs ws:List Value} (h:Bx w B vs) (hl:ws.length=vs.length):Bx (w.setCells B 0 ws) B ws:=by
 refine ⟨fun j v hj=>?_,fun j=>by rw [World.frozen?_setCells];exact h.2 j⟩
 have:=World.rangeAt_setCells_same w B 0 ws (by rw [hl];exact h.present) j v hj
 rwa [Nat.zero_add] at this
theorem below_setCells {w:World} {n B:Nat} (hB:n≤B):∀ (ws:List Value) (o:Nat) (w':World),Below n w w'→Below n w (w'.setCells B o ws)
 | [],_,_,h=>h
 | v :: r,o,w',h=>below_setCells hB r (o+1) _ (h.setCell (p:=⟨B,o,none⟩) hB v)
theorem sets_far {w:World} {B C:Nat} {vs:List Value} (h:Bx w C vs) (hne:C≠B) (o:Nat) (ws:List Value):Bx (w.setCells B o ws) C vs:=by
 refine ⟨fun j v hj=>?_,fun j=>by rw [World.frozen?_setCells];exact h.2 j⟩
 rw [World.cell?_setCells_out B ws o w _ (fun e _=>absurd e hne)]
 exact h.1 j v hj
theorem results_wide {P:Program} {fn:Func} {tmps:Array Value} {w:World} {s:Nat} {t:TypeId} (hr:fn.results=#[.cell s t]) (b:Nat) (ht:tmps.getD s undef=.pointer (some ⟨b,0,none⟩)) (cs:List Value) (d:TypeDesc)
  (hc:w.rangeAt b 0 cs) (hu:P.underlying t=some d) (hd:d.isRow=true) (hi:(P.info? t).map (·.size)=some cs.length):(results fn tmps).run P w=.ok (.agg cs.toArray) w:=by
 unfold results
 rw [hr]
 have ht':tmps[s]?.getD undef=.pointer (some ⟨b,0,none⟩):=by simpa using ht
 simp [ht',asAddr,run_loadVar_mid w b 0 t cs d hc hu hd hi]
theorem quiet_load_mid {P:Program} {C:World→Prop} {K:Act→Prop} {o:Oper} {a:Act} (ty:TypeId) (x:Operand) (ho:o.op=.load ty x) (b off:Nat) (hx:a.eval x=.pointer (some ⟨b,off,none⟩)) (cs:List Value) (d:TypeDesc)
  (hS:∀ w,C w→w.rangeAt b off cs) (hu:P.underlying ty=some d) (hd:d.isRow=true) (hi:(P.info? ty).map (·.size)=some cs.length) (h:K (a.put o.dst (.agg cs.toArray))):o.quiet P a C K :=
 ⟨_,fun w hw=>by
  unfold Oper.quietAt execOp
  simp only [ho,hx,Instr.loadAt,Instr.sureAddr,Sem.run_bind,Sem.run_pure,Result.andThen_ok,run_loadVar_mid w b off ty cs d (hS w hw) hu hd hi]
  exact ⟨rfl,rfl⟩,h⟩
theorem later_range {w:World} {B:Nat} {cs:List Value} (h:Bx w B cs) (h0:0<cs.length):∀ w',(∃ u:Later w,w'=u.now)→w'.rangeAt B 0 cs:=by
 rintro _ ⟨u,rfl⟩
 exact (h.later h0 u.up).range
end Go.Proofs.Ytobpfncglbhcmaa
namespace Go.Proofs.Ytobpfncglbhcmaa
open Go.RowKit
structure Jb where
 t:List UInt8
 n:Nat→Int
 f:Sc
 ls:List (List UInt8)
def JobA (w:World) (cs:List Value) (j:Jb):Prop :=
 ∃ a c a' c',cs=jobL (tx j.t) j.n j.f.c j.f.r (.slice a j.f.l.length c) (.slice a' j.ls.length c')∧InL w a j.f.l∧TxA w a' c' j.ls
def JobF (base:Nat) (w:World) (cs:List Value) (j:Jb):Prop :=
 ∃ a c a' c',cs=jobL (tx j.t) j.n j.f.c j.f.r (.slice a j.f.l.length c) (.slice a' j.ls.length c')∧InF base w a j.f.l∧TxF base w a' c' j.ls
theorem JobF.jobA {base:Nat} {w:World} {cs:List Value} {j:Jb} (h:JobF base w cs j):JobA w cs j:=by
 obtain ⟨a,c,a',c',e,h1,h2⟩:=h
 exact ⟨a,c,a',c',e,h1.inL,h2.arg⟩
theorem JobA.up {w w':World} {cs:List Value} {j:Jb} (h:JobA w cs j) (hb:Below w.heap.size w w'):JobA w' cs j:=by
 obtain ⟨a,c,a',c',e,h1,h2⟩:=h
 exact ⟨a,c,a',c',e,h1.up hb,h2.up hb⟩
theorem JobF.up {base:Nat} {w w':World} {cs:List Value} {j:Jb} (h:JobF base w cs j) (hb:Below w.heap.size w w'):JobF base w' cs j:=by
 obtain ⟨a,c,a',c',e,h1,h2⟩:=h
 exact ⟨a,c,a',c',e,h1.up hb,h2.up hb⟩
theorem JobF.mono {base base':Nat} {w:World} {cs:List Value} {j:Jb} (h:JobF base w cs j) (hb:base'≤base):JobF base' w cs j:=by
 obtain ⟨a,c,a',c',e,h1,h2⟩:=h
 exact ⟨a,c,a',c',e,h1.mono hb,h2.mono hb⟩
theorem JobA.length {w:World} {cs:List Value} {j:Jb} (h:JobA w cs j):cs.length=33:=by
 obtain ⟨a,c,a',c',rfl,-⟩:=h
 rfl
theorem JobA.num {w:World} {cs:List Value} {j:Jb} (h:JobA w cs j) {k:Nat} (hk:k<28):cs[cellJ k]?=some (.int .i64 (j.n k)):=by
 obtain ⟨a,c,a',c',rfl,-⟩:=h
 exact job_at _ _ _ _ _ _ hk
theorem JobA.one {w:World} {cs:List Value} {j:Jb} (h:JobA w cs j):cs.toArray.all (·.oneCell')=true:=by
 obtain ⟨a,c,a',c',rfl,-⟩:=h
 exact job_one _ _ _ _ _ _ _ _ _ _
theorem JobA.put {w:World} {cs:List Value} {j:Jb} (h:JobA w cs j) {k:Nat} (hk:k<28) (z:Int):JobA w (cs.set (cellJ k) (.int .i64 z)) { j with n:=setN j.n k z }:=by
 obtain ⟨a,c,a',c',rfl,h1,h2⟩:=h
 exact ⟨a,c,a',c',job_set _ _ _ _ _ _ hk z,h1,h2⟩
theorem JobF.put {base:Nat} {w:World} {cs:List Value} {j:Jb} (h:JobF base w cs j) {k:Nat} (hk:k<28) (z:Int):JobF base w (cs.set (cellJ k) (.int .i64 z)) { j with n:=setN j.n k z }:=by
 obtain ⟨a,c,a',c',rfl,h1,h2⟩:=h
 exact ⟨a,c,a',c',job_set _ _ _ _ _ _ hk z,h1,h2⟩
theorem infoJob:(Try.prog.info? 29).map (·.size)=some 33:=by kernel_rfl
section
variable {ops:Array Oper} {rest:List Oper} {o:Oper} {a:Act} {w:World} {Q:Exit→Act→World→Prop} {C:World→Prop} {K:Act→Prop}
theorem wpList_load_job (hg:o.guard=none) (x:Operand) (ho:o.op=.load 29 x) (b:Nat) (hx:a.eval x=.pointer (some ⟨b,0,none⟩)) (cs:List Value) (hb:Bx w b cs) (hl:cs.length=33)
  (h:wpList Try.prog ops Q rest (a.put o.dst (.agg cs.toArray)) w):wpList Try.prog ops Q (o :: rest) a w :=
 wpList_load_mid hg _ x ho b 0 hx cs _ hb.range Try.underlying29 rfl (by rw [hl];exact infoJob) h
theorem quiet_load_job (x:Operand) (ho:o.op=.load 29 x) (b:Nat) (hx:a.eval x=.pointer (some ⟨b,0,none⟩)) (cs:List Value) (hl:cs.length=33) (hS:∀ w,C w→w.rangeAt b 0 cs)
  (h:K (a.put o.dst (.agg cs.toArray))):o.quiet Try.prog a C K :=
 quiet_load_mid _ x ho b 0 hx cs _ hS Try.underlying29 rfl (by rw [hl];exact infoJob) h
theorem wpList_store_job (hg:o.guard=none) (x y:Operand) (ho:o.op=.store 29 x y) (b:Nat) (hx:a.eval x=.pointer (some ⟨b,0,none⟩)) (vs cs:List Value) (hy:a.eval y=.agg cs.toArray) (hb:Bx w b vs) (hv:vs.length=33) (hl:cs.length=33) (h1:cs.toArray.all (·.oneCell')=true)
  (h:wpList Try.prog ops Q rest (a.put o.dst undef) (w.setCells b 0 cs)):wpList Try.prog ops Q (o :: rest) a w :=
 wpList_store_mid hg _ x y ho b 0 cs.toArray hx hy (by have:=hb.present;rw [hv] at this;simpa [hl] using this) (by simpa [hl] using infoJob) h1 (by simpa using h)
end
end Go.Proofs.Ytobpfncglbhcmaa
namespace Go.Proofs.Ytobpfncglbhcmaa
open Go.RowKit
def enc (l:List Int):List Value:=l.map (Value.int .i64)
def Nums (w:World) (a:Option Addr) (l:List Int):Prop:=l=[]∨∃ b off,a=some ⟨b,off,none⟩∧∀ j x,l[j]?=some x→w.cell? ⟨b,off+j,none⟩=some (.int .i64 x)
theorem Nums.nil {w:World} {a:Option Addr}:Nums w a []:=.inl rfl
theorem Nums.up {w w':World} {a:Option Addr} {l:List Int} (h:Nums w a l) (hb:Below w.heap.size w w'):Nums w' a l:=by
 rcases h with h | ⟨b,off,e,h⟩
 ·exact .inl h
 ·exact .inr ⟨b,off,e,fun j x hx=>bl_cell hb (h j x hx)⟩
theorem Nums.take {w:World} {a:Option Addr} {l:List Int} (h:Nums w a l) (k:Nat):Nums w a (l.take k):=by
 rcases h with rfl | ⟨b,off,e,h⟩
 ·exact .inl (by simp)
 ·refine .inr ⟨b,off,e,fun j x hx=>h j x ?_⟩
  rw [List.getElem?_take] at hx
  split at hx
  ·exact hx
  ·cases hx
theorem Nums.drop {w:World} {b off:Nat} {l:List Int} (h:Nums w (some ⟨b,off,none⟩) l) (k:Nat):Nums w (some ⟨b,off+k,none⟩) (l.drop k):=by
 rcases h with rfl | ⟨b',off',e,h⟩
 ·exact .inl (by simp)
 ·cases e
  refine .inr ⟨b,off+k,rfl,fun j x hx=>?_⟩
  rw [List.getElem?_drop] at hx
  rw [Nat.add_assoc]
  exact h _ x hx
theorem Nums.cell {w:World} {a:Option Addr} {l:List Int} (h:Nums w a l) (hl:0<l.length):∃ b off,a=some ⟨b,off,none⟩∧∀ j x,l[j]?=some x→w.cell? ⟨b,off+j,none⟩=some (.int .i64 x):=by
 rcases h with rfl | h
 ·simp at hl
 ·exact h
theorem Nums.own {w:World} {base:Nat} {v:Value} {l:List Int} (h:w.ownsRow base 3 1 v l.length (enc l)):∃ a c,v=.slice a l.length c∧Nums w a l∧(∀ p,a=some p→p.block<w.heap.size∧base≤p.block):=by
 rcases h.2 with ⟨rfl,h0⟩ | ⟨g,cap,cur,rfl,hb,hg,hcap,hmax,hsz,htk⟩
 ·exact ⟨none,0,by rw [h0],.inl (List.eq_nil_of_length_eq_zero h0),fun p hp=>by cases hp⟩
 ·refine ⟨some ⟨g,0,none⟩,cap,rfl,.inr ⟨g,0,rfl,fun j x hx=>?_⟩,fun p hp=>by cases hp;exact ⟨(Array.getElem?_eq_some_iff.1 hg).1,hb⟩⟩
  have:=h.cells (g:=g) rfl j (.int .i64 x) (by simp [enc,hx])
  rwa [show (⟨g,0,none⟩:Addr).add j=⟨g,0+j,none⟩ by unfold Addr.add;split<;>simp_all] at this
def RowAt (w:World) (R:Nat) (v:Value) (l:List Int):Prop :=
 (v=.slice none 0 0∧l=[])∨∃ off c cur,v=.slice (some ⟨R,off,none⟩) l.length c∧w.heap[R]?=some (.cells cur 3 (0,0))∧l.length≤c∧c≤maxLen∧off+c≤cur.size∧∀ j x,l[j]?=some x→w.cell? ⟨R,off+j,none⟩=some (.int .i64 x)
theorem RowAt.kept {w w':World} {R:Nat} {v:Value} {l:List Int} (h:RowAt w R v l) (hb:R<w.heap.size→w'.heap[R]?=w.heap[R]?):RowAt w' R v l:=by
 rcases h with h | ⟨off,c,cur,hv,hc,h1,h2,h3,h4⟩
 ·exact .inl h
 ·have e:=hb (Array.getElem?_eq_some_iff.1 hc).1
  exact .inr ⟨off,c,cur,hv,e.trans hc,h1,h2,h3,fun j x hx=>(World.cell?_of_block (a:=⟨R,off+j,none⟩) e).trans (h4 j x hx)⟩
theorem RowAt.of {w:World} {base:Nat} {v:Value} {l:List Int} (h:w.ownsRow base 3 1 v l.length (enc l)) (D:Nat):∃ R,RowAt w R v l∧((v=.slice none 0 0∧R=D)∨(base≤R∧R<w.heap.size∧v≠.slice none 0 0)):=by
 obtain ⟨a,c,e,hn,_⟩:=Nums.own h
 rcases h.2 with ⟨rfl,h0⟩ | ⟨g,cap,cur,rfl,hb,hg,hcap,hmax,hsz,htk⟩
 ·exact ⟨D,.inl ⟨rfl,List.eq_nil_of_length_eq_zero h0⟩,.inl ⟨rfl,rfl⟩⟩
 ·refine ⟨g,.inr ⟨0,cap,cur,rfl,hg,hcap,hmax,by omega,?_⟩,.inr ⟨hb,(Array.getElem?_eq_some_iff.1 hg).1,by simp⟩⟩
  intro j x hx
  rcases hn with h0 | ⟨b,off,e1,h1⟩
  ·rw [h0] at hx;simp at hx
  ·cases e
   cases e1
   exact h1 j x hx
end Go.Proofs.Ytobpfncglbhcmaa
namespace Go.Proofs.Ytobpfncglbhcmaa
section
variable {l:List Oper}
def Upto (l:List Oper) (k:Nat) (s:Array Bool):Prop:=s.size=l.length∧∀ j,j<l.length→s[j]?=some (decide (j<k))
theorem Upto.getD {k:Nat} {s:Array Bool} (h:Upto l k s) {j:Nat} (hj:j<l.length) (b:Bool):s.getD j b=decide (j<k):=by
 rw [Array.getD_eq_getD_getElem?,h.2 j hj];rfl
end
end Go.Proofs.Ytobpfncglbhcmaa
namespace Go.Proofs.Ytobpfncglbhcmaa
open Go.RowKit
def isAlloc (o:Oper):Bool:=match o.op with | .alloc _=>true | _=>false
def dstAt (l:List Oper) (i:Nat):Option Tmp:=(l[i]?).bind (·.dst)
def headOk (l:List Oper) (n N:Nat):Bool :=
 (List.range n).all fun i=>match l[i]? with
  | none=>false
  | some o=>(match o.dst with
    | none=>false
    | some d=>decide (d<N)&&(List.range n).all fun j=>j==i || dstAt l j != some d) &&
   (!(isAlloc o) || o.guard.isNone)&&(o.after.all fun e=>!Region.binds .any e || decide (e.on<i)) &&
   ((List.range n).all fun j=>match l[j]? with
    | none=>false
    | some oj=>match oj.dst with
     | none=>false
     | some d=>!(o.looksAt l.toArray).contains d || (decide (j<i)&&!(isAlloc oj)&&o.after.any fun e=>Region.binds .any e&&e.on==j))
theorem headOk_spec {l:List Oper} {n N:Nat} (h:headOk l n N=true) (i:Nat) (hi:i<n) :
  ∃ o d,l[i]?=some o∧o.dst=some d∧d<N∧(∀ j,j<n→j≠i→dstAt l j≠some d)∧(isAlloc o=true→o.guard=none)∧(∀ e∈o.after,Region.binds .any e=true→e.on<i) ∧
   ∀ j,j<n→∀ oj d',l[j]?=some oj→oj.dst=some d'→d'∈o.looksAt l.toArray→j<i∧isAlloc oj=false∧∃ e∈o.after,Region.binds .any e=true∧e.on=j:=by
 have h0:=List.all_eq_true.1 h i (List.mem_range.2 hi)
 cases ho:l[i]? with
 | none=>rw [ho] at h0;cases h0
 | some o =>
  rw [ho] at h0
  simp only [Bool.and_eq_true] at h0
  obtain ⟨⟨⟨h1,h2⟩,h3⟩,h4⟩:=h0
  cases hd:o.dst with
  | none=>rw [hd] at h1;cases h1
  | some d =>
   rw [hd] at h1
   simp only [Bool.and_eq_true,decide_eq_true_eq] at h1
   refine ⟨o,d,rfl,hd,h1.1,fun j hj hji=>?_,fun ha=>?_,fun e he hb=>?_,fun j hj oj d' hoj hd' hm=>?_⟩
   ·have:=List.all_eq_true.1 h1.2 j (List.mem_range.2 hj)
    simpa [hji] using this
   ·simp only [ha,Bool.not_true,Bool.false_or,Option.isNone_iff_eq_none] at h2
    exact h2
   ·have:=Array.all_eq_true_iff_forall_mem.1 h3 e he
    simpa [hb] using this
   ·have:=List.all_eq_true.1 h4 j (List.mem_range.2 hj)
    rw [hoj] at this
    simp only [hd'] at this
    have hc:(o.looksAt l.toArray).contains d'=true:=by simpa using hm
    rw [hc] at this
    simp only [Bool.not_true,Bool.false_or,Bool.and_eq_true,decide_eq_true_eq,Bool.not_eq_true'] at this
    obtain ⟨⟨k1,k2⟩,k3⟩:=this
    obtain ⟨e,he,hb⟩:=Array.any_eq_true'.1 k3
    simp only [Bool.and_eq_true,beq_iff_eq] at hb
    exact ⟨k1,k2,e,he,hb.1,hb.2⟩
section
variable {P:Program} {ops:Array Oper} {C:World→Prop} {aF:Act}
end
theorem Bx.upTo {w w':World} {B:Nat} {vs:List Value} (h:Bx w B vs) (hlt:B<w.heap.size) (hb:Below w.heap.size w w'):Bx w' B vs :=
 ⟨fun j v hj=>bl_cell hb (h.1 j v hj),fun j=>(kept_marks hb B j hlt).trans (h.2 j)⟩
structure Under (l:List Oper) (n:Nat) (Z:TypeId→List Value) (a0 aF:Act) (w1:World) (s:Array Bool) (a:Act) (w:World):Prop where
 head:HeadInv .any l.toArray n s
 size:a.tmps.size=a0.tmps.size
 defers:a.defers=a0.defers
 fill:∀ (i:Nat) (o:Oper) (t:Tmp),i<n→s.getD i false=true→l[i]?=some o→isAlloc o=false→o.dst=some t→a.tmps[t]?=aF.tmps[t]?
 rest:∀ t:Tmp,(∀ (i:Nat) (o:Oper),i<n→s.getD i false=true→l[i]?=some o→o.dst≠some t)→a.tmps[t]?=a0.tmps[t]?
 up:Below w1.heap.size w1 w
 boxes:∃ gf:Nat→Nat,∀ (i:Nat) (o:Oper) (d:Tmp) (t:TypeId),i<n→s.getD i false=true→l[i]?=some o→o.op=.alloc t→o.dst=some d →
  a.tmps[d]?=some (.pointer (some ⟨gf i,0,none⟩))∧w1.heap.size≤gf i∧gf i<w.heap.size∧Bx w (gf i) (Z t)∧∀ (j:Nat) (oj:Oper) (tj:TypeId),j<n→s.getD j false=true→l[j]?=some oj→oj.op=.alloc tj→j≠i→gf j≠gf i
theorem set_listed {s:Array Bool} {i j:Nat} (h:(s.setIfInBounds i true).getD j false=true) (hne:j≠i):s.getD j false=true:=by rwa [getD_set_ne false (Ne.symm hne)] at h
theorem Under.quiet {l:List Oper} {n N:Nat} {Z:TypeId→List Value} {a0 aF a:Act} {w1 w w':World} {s:Array Bool} (I:Under l n Z a0 aF w1 s a w) (hok:headOk l n N=true) {i:Nat} {o:Oper} {d:Tmp} {v:Value} (hi:i<n)
  (ho:l[i]?=some o) (ha:isAlloc o=false) (hd:o.dst=some d) (hr:i∈Region.ready .any l.toArray s) (hlt:d<a0.tmps.size) (hv:aF.tmps[d]?=some v) (hb:Below w.heap.size w w') :
  Under l n Z a0 aF w1 (s.setIfInBounds i true) (a.put o.dst v) w':=by
 obtain ⟨o',d',ho',hd',_,hdis,_,_,_⟩:=headOk_spec hok i hi
 obtain rfl:o'=o:=Option.some.inj (ho'.symm.trans ho)
 obtain rfl:d'=d:=Option.some.inj (hd'.symm.trans hd)
 have other:∀ (j:Nat) (oj:Oper),j<n→l[j]?=some oj→j≠i→∀ t,oj.dst=some t→d'≠t:=fun j oj hj hoj hji t ht e=>hdis j hj hji (by subst e;simp [dstAt,hoj,ht])
 have putNe:∀ t,d'≠t→(a.put o'.dst v).tmps[t]?=a.tmps[t]?:=fun t ht=>by rw [hd];simp [Act.put,Array.getElem?_setIfInBounds_ne ht]
 have putAt:(a.put o'.dst v).tmps[d']?=some v:=by rw [hd];simp [Act.put,I.size,hlt]
 refine ⟨I.head.set hr hi,by rw [hd];simp [Act.put,I.size],by rw [hd];simp [Act.put,I.defers],fun j oj t hj hl hoj hja hjd=>?_,fun t ht=>?_,up_trans I.up hb,?_⟩
 ·by_cases e:j=i
  ·subst e
   obtain rfl:oj=o':=Option.some.inj (hoj.symm.trans ho)
   obtain rfl:t=d':=Option.some.inj (hjd.symm.trans hd)
   rw [putAt,hv]
  ·rw [putNe t (other j oj hj hoj e t hjd)]
   exact I.fill j oj t hj (set_listed hl e) hoj hja hjd
 ·have hsi:(s.setIfInBounds i true).getD i false=true:=by
   have:i<s.size:=by rw [I.head.size];exact (List.getElem?_eq_some_iff.1 ho).1
   simp [this]
  rw [putNe t fun e=>ht i o' hi hsi ho (by rw [hd,e])]
  exact I.rest t fun j oj hj hl hoj=>ht j oj hj (getD_set_true hl) hoj
 ·obtain ⟨gf,hg⟩:=I.boxes
  refine ⟨gf,fun j oj dj t hj hl hoj hop hjd=>?_⟩
  have hja:isAlloc oj=true:=by simp [isAlloc,hop]
  have e:j≠i:=fun e=>by
   subst e
   obtain rfl:oj=o':=Option.some.inj (hoj.symm.trans ho)
   rw [hja] at ha;cases ha
  obtain ⟨g1,g2,g3,g4,g5⟩:=hg j oj dj t hj (set_listed hl e) hoj hop hjd
  refine ⟨by rw [putNe dj (other j oj hj hoj e dj hjd)];exact g1,g2,Nat.lt_of_lt_of_le g3 hb.size,g4.upTo g3 hb,fun k ok tk hk hkl hok' hkop hkj=>?_⟩
  have e':k≠i:=fun e=>by
   subst e
   obtain rfl:ok=o':=Option.some.inj (hok'.symm.trans ho)
   have:isAlloc ok=true:=by simp [isAlloc,hkop]
   rw [this] at ha;cases ha
  exact g5 k ok tk hk (set_listed hkl e') hok' hkop hkj
end Go.Proofs.Ytobpfncglbhcmaa
namespace Go.Proofs.Ytobpfncglbhcmaa
open Go.RowKit
def zeroL:List Value:=jobL ⟨#[]⟩ (fun _=>0) 0 0 (.slice none 0 0) (.slice none 0 0)
theorem job_alloc (w:World):(Instr.alloc 29 true (.tuple #[])).run Try.prog w=.ok (.pointer (some ⟨w.heap.size,0,none⟩)) (w.alloc (.cells zeroL.toArray 29)):=by
 kernel_rfl
def firstN (k:Nat) (n:Nat→Int):Nat→Int:=fun i=>if i<k then n i else 0
def PutRel (w:World) (g g2:Nat) (t:ByteArray) (m:Nat→Int) (c r:Int) (fv lv:Value) (i:Nat) (wx:World):Prop :=
 Bx wx g2 (jobL t (firstN i m) c r fv lv)∧Bx wx g (enc (numsL m))∧Bx wx (w.heap.size+1) zeroL∧Below w.heap.size w wx
theorem firstN_next (i:Nat) (m:Nat→Int):setN (firstN i m) i (m i)=firstN (i+1) m:=by
 funext j
 unfold setN firstN
 by_cases h:j=i
 ·subst h;simp
 ·have:(j<i+1)=(j<i):=by apply propext;omega
  rw [if_neg h]
  simp only [this]
theorem PutRel.put {w:World} {g g2:Nat} {t:ByteArray} {m:Nat→Int} {c r:Int} {fv lv:Value} {wx:World} {i:Nat} (h:PutRel w g g2 t m c r fv lv i wx) (hn:g≠g2∧w.heap.size+1≠g2∧w.heap.size≤g2) (hi:i<28):PutRel w g g2 t m c r fv lv (i+1) (wx.setCell ⟨g2,cellJ i,none⟩ (.int .i64 (m i))):=by
 refine ⟨?_,h.2.1.far (p:=⟨g2,cellJ i,none⟩) (fun e=>hn.1 e.symm) _,h.2.2.1.far (p:=⟨g2,cellJ i,none⟩) (fun e=>hn.2.1 e.symm) _,h.2.2.2.setCell (p:=⟨g2,cellJ i,none⟩) hn.2.2 _⟩
 have:=h.1.set (cellJ i) (.int .i64 (m i))
 rwa [job_set _ _ _ _ _ _ hi,firstN_next] at this
end Go.Proofs.Ytobpfncglbhcmaa
namespace Go.Proofs.Ytobpfncglbhcmaa
open Go.RowKit Go.Shelf
attribute [local go_sem] Oper.semAt_some
theorem InL.kept {W W':World} {row:Option Nat} {a:Option Addr} {l:List Sp} (h:InL W a l) (hg:W.grownBy W' row) (hr:∀ r,row=some r→∃ o:Obj,W.heap[r]?=some o∧o.isCells=false):InL W' a l:=by
 rcases h with h | ⟨b,off,e,h⟩
 ·exact .inl h
 ·exact .inr ⟨b,off,e,fun j p hp=>by
   obtain ⟨h0,h1,h2⟩:=h j p hp
   exact ⟨cell_kept h0 hg hr,cell_kept h1 hg hr,cell_kept h2 hg hr⟩⟩
theorem Cells.kept {W W':World} {row:Option Nat} {B:Nat} {vs:List Value} (h:∀ j v,vs[j]?=some v→W.cell? ⟨B,j,none⟩=some v) (hg:W.grownBy W' row) (hr:∀ r,row=some r→∃ o:Obj,W.heap[r]?=some o∧o.isCells=false):∀ j v,vs[j]?=some v→W'.cell? ⟨B,j,none⟩=some v:=fun j v hj=>cell_kept (h j v hj) hg hr
theorem InF.kept {W W':World} {base:Nat} {row:Option Nat} {a:Option Addr} {l:List Sp} (h:InF base W a l) (hg:W.grownBy W' row) (hr:∀ r,row=some r→∃ o:Obj,W.heap[r]?=some o∧o.isCells=false):InF base W' a l:=by
 rcases h with h | ⟨b,off,e,h0,h⟩
 ·exact .inl h
 ·exact .inr ⟨b,off,e,h0,fun j p hp=>by
   obtain ⟨h0,h1,h2⟩:=h j p hp
   exact ⟨cell_kept h0 hg hr,cell_kept h1 hg hr,cell_kept h2 hg hr⟩⟩
end Go.Proofs.Ytobpfncglbhcmaa
namespace Go.Proofs.Ytobpfncglbhcmaa
open Go.RowKit
def usualL:List Int:=[16,0,0,148000,210000,3000,5000,5000,5000,0,1,1,640000,900000,10000,12000,8000,100,1,1,0,5000,3000,100,20000,5000,10,0]
def usualN (i:Nat):Int:=usualL.getD i 0
def usualF:Sc:=⟨2,2,[⟨3,1,false⟩,⟨1,1,false⟩]⟩
def usualJ:Jb:=⟨[98,111,111,107],usualN,usualF,[]⟩
theorem keep_sets (w:World) (B o:Nat) (ws:List Value):∀ p:Addr,p.block≠B→∀ v,w.cell? p=some v→(w.setCells B o ws).cell? p=some v:=fun p hp v hv=>by
 rw [World.cell?_setCells_out B ws o w p (fun e _=>absurd e hp)]
 exact hv
theorem wpList_build_job {ops:Array Oper} {rest:List Oper} {o:Oper} {a:Act} {w:World} {Q:Exit→Act→World→Prop} (hg:o.guard=none) (parts:Array (Nat×Operand)) (ho:o.op=.build 29 parts) (cells:Array Value)
  (hc:Try.prog.built 29 (parts.map fun (i,x)=>(i,a.eval x)).toList=some cells) (h:wpList Try.prog ops Q rest (a.put o.dst (.agg cells)) w):wpList Try.prog ops Q (o :: rest) a w :=
 wpList_build_to hg _ parts ho cells hc h
set_option maxRecDepth 100000 in
theorem refUsual_any (w:World):Calls Try.prog 16 #[] w fun e w'=>∃ cs,e=.returned (.agg cs.toArray)∧JobF w.heap.size w' cs usualJ∧Below w.heap.size w w':=by
 have HR:=Bx.new w 29 zeroL
 have HB:=up_alloc (Below.refl w.heap.size w) (.cells zeroL.toArray 29)
 have HZ:=World.size_alloc w (.cells zeroL.toArray 29)
 obtain ⟨w1,hw1⟩:∃ w1,w.alloc (.cells zeroL.toArray 29)=w1:=⟨_,rfl⟩
 have R2:=HR.later (by decide) (up_alloc (Below.refl _ _) (.cells #[.int .i64 3,.int .i64 1,.bool false,.int .i64 1,.int .i64 1,.bool false] 53))
 have B2:=up_alloc HB (.cells #[.int .i64 3,.int .i64 1,.bool false,.int .i64 1,.int .i64 1,.bool false] 53)
 have S2:=Bx.new (w.alloc (.cells zeroL.toArray 29)) 53 [.int .i64 3,.int .i64 1,.bool false,.int .i64 1,.int .i64 1,.bool false]
 rw [hw1] at R2 B2 S2 HZ
 have HR2:=Lib.hid R2;have HB2:=Lib.hid B2;have HS2:=Lib.hid S2;have HZ2:=Lib.hid HZ;have HW:=Lib.hid hw1
 clear R2 B2 S2 HR HB HZ hw1
 go_enter Try.func16,Try.ntmps16
 go_wp2_with (first
  | (refine wpList_alloc_to rfl 29 rfl _ _ (job_alloc _) ?_;simp only [Act.put,HW.out,List.setIfInBounds_toArray,List.set_cons_succ,List.set_cons_zero])
  | (refine wpList_build_job rfl _ rfl (jobL (tx usualJ.t) usualN 2 2 (.slice (some ⟨w1.heap.size,0,none⟩) 2 2) (.slice none 0 0)).toArray ?_ ?_;kernel_rfl;simp only [Act.put,List.setIfInBounds_toArray,List.set_cons_succ,List.set_cons_zero])
  | (refine wpList_store_job rfl _ _ rfl w.heap.size rfl zeroL (jobL (tx usualJ.t) usualN 2 2 (.slice (some ⟨w1.heap.size,0,none⟩) 2 2) (.slice none 0 0)) rfl HR2.out rfl rfl (job_one _ _ _ _ _ _ _ _ _ _) ?_;simp only [Act.put]))
 have hz:=HZ2.out
 have R3:=HR2.out.sets (ws:=jobL (tx usualJ.t) usualN 2 2 (.slice (some ⟨w1.heap.size,0,none⟩) 2 2) (.slice none 0 0)) rfl
 have B3:=below_setCells (Nat.le_refl w.heap.size) (jobL (tx usualJ.t) usualN 2 2 (.slice (some ⟨w1.heap.size,0,none⟩) 2 2) (.slice none 0 0)) 0 _ HB2.out
 have S3:=sets_far HS2.out (show w1.heap.size≠w.heap.size by omega) 0 (jobL (tx usualJ.t) usualN 2 2 (.slice (some ⟨w1.heap.size,0,none⟩) 2 2) (.slice none 0 0))
 refine bodyPost_ret (v:=.agg (jobL (tx usualJ.t) usualN 2 2 (.slice (some ⟨w1.heap.size,0,none⟩) 2 2) (.slice none 0 0)).toArray) (results_wide Try.results16 w.heap.size rfl _ _ R3.range Try.underlying29 rfl infoJob) rfl
  ⟨_,rfl,⟨some ⟨w1.heap.size,0,none⟩,2,none,0,rfl,.inr ⟨w1.heap.size,0,rfl,by omega,fun j p hp=>?_⟩,.inl rfl⟩,B3⟩
 match j,hp with
 | 0,hp=>cases hp;exact ⟨S3.cell 0 rfl,S3.cell 1 rfl,S3.cell 2 rfl⟩
 | 1,hp=>cases hp;exact ⟨S3.cell 3 rfl,S3.cell 4 rfl,S3.cell 5 rfl⟩
 | j+2,hp=>simp [usualJ,usualF] at hp
end Go.Proofs.Ytobpfncglbhcmaa
namespace Go.Proofs.Ytobpfncglbhcmaa
open Go.RowKit
def LiG (G:Nat→Prop) (w:World) (a:Option Addr) (l:List Sp):Prop:=l=[]∨∃ b off,a=some ⟨b,off,none⟩∧G b∧InS w b off l
section
variable {G G':Nat→Prop} {w w':World} {a:Option Addr} {c:Nat} {l:List Sp} {base:Nat}
theorem LiG.inL (h:LiG G w a l):InL w a l:=h.imp id fun ⟨b,off,e,_,h⟩=>⟨b,off,e,h⟩
theorem LiG.mono (h:LiG G w a l) (hG:∀ b,G b→G' b):LiG G' w a l:=h.imp id fun ⟨b,off,e,g,h⟩=>⟨b,off,e,hG _ g,h⟩
theorem LiG.up (h:LiG G w a l) (hb:Below w.heap.size w w'):LiG G w' a l:=h.imp id fun ⟨b,off,e,g,h⟩=>⟨b,off,e,g,h.up hb⟩
theorem LiG.old (h:LiG G w a l):LiG (fun b=>G b∧b<w.heap.size) w a l:=by
 rcases h with h | ⟨b,off,e,g,h⟩
 ·exact .inl h
 ·cases l with
  | nil=>exact .inl rfl
  | cons p r=>exact .inr ⟨b,off,e,⟨g,World.block_lt_of_cell? w _ (h 0 p rfl).1⟩,h⟩
theorem LiG.keep {B:Nat} (h:LiG G w a l) (hB:¬ G B) (hk:∀ p:Addr,p.block≠B→∀ v,w.cell? p=some v→w'.cell? p=some v):LiG G w' a l :=
 h.imp id fun ⟨b,off,e,g,h⟩=>⟨b,off,e,g,fun i q hq=>by
  have hne:b≠B:=fun e=>hB (e ▸ g)
  obtain ⟨c0,c1,c2⟩:=h i q hq
  exact ⟨hk _ hne _ c0,hk _ hne _ c1,hk _ hne _ c2⟩⟩
theorem LiG.set (h:LiG G w a l) {p:Addr} (hp:¬ G p.block) (x:Value):LiG G (w.setCell p x) a l :=
 h.keep hp fun q hq v hv=>(World.cell?_setCell_far _ _ _ _ (Ne.symm hq)).trans hv
theorem InF.liG (h:InF base w a l):LiG (base≤·) w a l:=h
theorem InL.liG (h:InL w a l):LiG (·<w.heap.size) w a l:=(show LiG (fun _=>True) w a l from h.imp id fun ⟨b,off,e,h⟩=>⟨b,off,e,trivial,h⟩).old.mono fun _ h=>h.2
end
end Go.Proofs.Ytobpfncglbhcmaa
namespace Go.Proofs.Ytobpfncglbhcmaa
open Go.RowKit
theorem usual_kept {w w':World} {B:Nat} {cs:List Value} (h:JobA w cs usualJ) (hB:w.heap.size≤B) (hk:∀ p:Addr,p.block≠B→∀ v,w.cell? p=some v→w'.cell? p=some v):JobA w' cs usualJ:=by
 obtain ⟨a,c,a',c',e,h1,h2⟩:=h
 exact ⟨a,c,a',c',e,(h1.liG.keep (B:=B) (by omega) hk).inL,.inl rfl⟩
end Go.Proofs.Ytobpfncglbhcmaa
namespace Go.Proofs.Ytobpfncglbhcmaa
open Go.Deep Go.ChangeShapes Go.WideShapes
def FitV (u:Option TypeDesc) (v:Value):Prop:=match u with
 | some (.int k)=>∃ z,v=.int k z∧(Lit.int k z).wf=true
 | some .bool=>∃ b,v=.bool b
 | some .string=>∃ s:ByteArray,v=.string s∧s.size≤maxLen
 | _=>True
theorem list_of {α:Type} {Q:Nat→α→Prop}:∀ (n:Nat),(∀ i,i<n→∃ x,Q i x)→∃ l:List α,l.length=n∧∀ i x,l[i]?=some x→Q i x
 | 0,_=>⟨[],rfl,fun i x h=>by simp at h⟩
 | n+1,h=>by
  obtain ⟨l,hl,hq⟩:=list_of n (fun i hi=>h i (by omega))
  obtain ⟨x,hx⟩:=h n (by omega)
  refine ⟨l++[x],by simp [hl],fun i y hy=>?_⟩
  rcases Nat.lt_or_ge i n with hi | hi
  ·rw [List.getElem?_append_left (by omega)] at hy
   exact hq i y hy
  ·rw [List.getElem?_append_right (by omega),List.getElem?_singleton] at hy
   split at hy
   ·cases hy
    obtain rfl:i=n:=by omega
    exact hx
   ·cases hy
section
variable {H:Type} {enc:TypeId×Value→H} {P:Program} {w:World} {base:Nat} {spare:Nat→Bool} {held:Bool}
theorem trod_fit {t:TypeId} {fuel:Nat} {cs:List Value} {x:DataW H×List MemPlace} (hc:cs.length=1) (h:DataW.trod enc P w base spare held fuel t cs=some x):∃ v,cs=[v]∧FitV (P.underlying t) v:=by
 obtain ⟨v,rfl⟩:=List.length_eq_one_iff.1 hc
 refine ⟨v,rfl,?_⟩
 unfold FitV
 split
 ·rename_i k hk
  obtain ⟨z,hz,_,hw⟩:=DataW.trod_int hk h
  exact ⟨z,by simpa using hz,hw⟩
 ·rename_i hk
  obtain ⟨b,hb,_⟩:=DataW.trod_bool hk h
  exact ⟨b,by simpa using hb⟩
 ·rename_i hk
  obtain ⟨s,hs,_,hw⟩:=DataW.trod_string hk h
  exact ⟨s,by simpa using hs,hw⟩
 ·trivial
theorem fit_int {t:TypeId} {k:IntKind} {p:Addr} (ht:P.underlying t=some (.int k)) (h:∃ v,w.cell? p=some v∧FitV (P.underlying t) v):∃ z,w.cell? p=some (.int k z)∧(Lit.int k z).wf=true:=by
 obtain ⟨v,hc,hv⟩:=h
 rw [ht] at hv
 obtain ⟨z,rfl,hz⟩:=hv
 exact ⟨z,hc,hz⟩
theorem fit_bool {t:TypeId} {p:Addr} (ht:P.underlying t=some .bool) (h:∃ v,w.cell? p=some v∧FitV (P.underlying t) v):∃ z,w.cell? p=some (.bool z):=by
 obtain ⟨v,hc,hv⟩:=h
 rw [ht] at hv
 obtain ⟨z,rfl⟩:=hv
 exact ⟨z,hc⟩
theorem open_cell_structs {t e:TypeId} {fs:Array Field} {fuel:Nat} {cs:List Value} {x:DataW H×List MemPlace} (ht:P.underlying t=some (.slice e)) (he:P.underlying e=some (.struct fs))
  (hone:oneCellFields P fs=true) (ce:P.cellsOf e=fs.size) (h:DataW.trod enc P w base spare held fuel t cs=some x) :
  cs=[.slice none 0 0]∨∃ (a:Addr) (len cap:Nat),cs=[.slice (some a) len cap]∧len≤cap∧cap≤maxLen ∧
   ∀ i,i<len→∀ j f,fs[j]?=some f→∃ v,w.cell? (a.add (i*fs.size+j))=some v∧FitV (P.underlying f.type) v:=by
 rcases open_slice ht h with ⟨h0,_⟩ | ⟨a,len,cap,m,n,D,Pl,rfl,hb,hl,hm,hmm,rfl,hx⟩
 ·exact .inl h0
 right
 have hlm:len≤m:=by rw [hmm];split<;>omega
 refine ⟨a,len,cap,rfl,hl,hm,fun i hi j f hfj=>?_⟩
 have hj:j<fs.size:=(Array.getElem?_eq_some_iff.1 hfj).1
 obtain ⟨cs',h1,h2⟩:=hx i (by omega)
 rw [ce] at h1
 obtain ⟨_,hlen,hcell⟩:=World.cells?_some h1
 obtain ⟨xs,k,_,_,_,hxl,hf⟩:=DataW.trod_struct he h2
 obtain ⟨o,c⟩:=hone_of hone j _ hfj
 have g:=hf j _ hfj
 rw [o,c,List.getElem?_eq_getElem (by omega)] at g
 obtain ⟨v,hv,hw⟩:=trod_fit (by rw [List.length_take,List.length_drop];omega) g
 have e1:=hcell j hj
 rw [Go.Deep.add_add] at e1
 have e2:cs'[j]?=some v:=by
  have:((cs'.drop j).take 1)[0]?=some v:=by rw [hv];rfl
  simpa using this
 exact ⟨v,e1.trans e2,hw⟩
end
end Go.Proofs.Ytobpfncglbhcmaa
namespace Go.Proofs.Ytobpfncglbhcmaa
open Go.RowKit
theorem steps_of (a:Option Addr) (len cap:Nat) (w:World)
  (h:(a=none∧len=0∧cap=0)∨∃ x,a=some x∧len≤cap∧cap≤maxLen∧∀ i,i<len→(∃ z,w.cell? (x.add (i*3+0))=some (.int .i64 z)∧(Lit.int .i64 z).wf=true)∧(∃ z,w.cell? (x.add (i*3+1))=some (.int .i64 z)∧(Lit.int .i64 z).wf=true)∧(∃ z,w.cell? (x.add (i*3+2))=some (.bool z))) :
  ∃ l:List Sp,l.length=len∧(l=[]∨∃ b off,a=some ⟨b,off,none⟩∧InS w b off l):=by
 rcases h with ⟨rfl,rfl,rfl⟩ | ⟨x,rfl,hl,hm,hc⟩
 ·exact ⟨[],rfl,.inl rfl⟩
 ·by_cases h0:len=0
  ·subst h0;exact ⟨[],rfl,.inl rfl⟩
  obtain ⟨b,off,spot⟩:=x
  have hspot:spot=none:=by
   obtain ⟨⟨z,hz,_⟩,_⟩:=hc 0 (by omega)
   simpa [Addr.add] using World.cell?_spot hz
  subst hspot
  obtain ⟨l,e,hq⟩:=list_of (Q:=fun i (p:Sp)=>w.cell? ⟨b,off+i*3,none⟩=some (.int .i64 p.d)∧w.cell? ⟨b,off+i*3+1,none⟩=some (.int .i64 p.n)∧w.cell? ⟨b,off+i*3+2,none⟩=some (.bool p.u)) len (fun i hi=>by
   obtain ⟨⟨d,h1,_⟩,⟨n,h2,_⟩,u,h3⟩:=hc i hi
   rw [Go.WideShapes.add_plain] at h1 h2 h3
   exact ⟨⟨d,n,u⟩,by simpa using h1,by rw [Nat.add_assoc];exact h2,by rw [Nat.add_assoc];exact h3⟩)
  exact ⟨l,e,.inr ⟨b,off,rfl,hq⟩⟩
end Go.Proofs.Ytobpfncglbhcmaa
