/- Part 14 of the texts that the proofs of this seat share: CallHeld, NumRow, RefNums, QuickOrder, AnyOrder, RefPut, Usual, SplitPart, AppendNone, SplitAt. -/
import Derived.Test.YtbbjileignefbaaGreatDoorPart13
import Derived.Test.YtbbjileignefbaaGreatDoorPart3
import Derived.Deep.MidRow
import Derived.Test.YtbbjileignefbaaGreatDoorProg
import Derived.IntWalk
import Derived.Laws.AppendOwn
import Derived.Laws.IdiomCopy
import Derived.RangeFuncBox
import Derived.Deep.Upon
import Derived.Lib.Hide
import Derived.Test.YtbbjileignefbaaGreatDoorPart1
import Derived.WalkKit
import Derived.BigQuiet
import Derived.StillTail
import Derived.KernelRfl
import Derived.Test.YtbbjileignefbaaGreatDoorPart4
import Derived.Deep.DeepCutAuto
import Derived.Test.YtbbjileignefbaaGreatDoorPart11
import Derived.Deep.AppendLies
import Derived.Laws.OwnMore
import Derived.Tactics
set_option linter.unnecessarySimpa false
set_option linter.unusedSimpArgs false
set_option linter.unusedVariables false
namespace Go.Proofs.YtbbjileignefbaaGreatDoor
open Go.RowKit
structure Held (B:Nat) (w:World) where
 now:World
 kept:∀ p:Addr,p.block=B→∀ v,w.cell? p=some v→now.cell? p=some v
instance (B:Nat) (w:World):Nonempty (Held B w):=⟨⟨w,fun _ _ _ h=>h⟩⟩
theorem Held.cell {B o:Nat} {w:World} {v:Value} (u:Held B w) (h:w.cell? ⟨B,o,none⟩=some v):u.now.cell? ⟨B,o,none⟩=some v:=u.kept _ rfl _ h
theorem held_drew (B:Nat) (w:World):∃ u:Held B w,w.drew=u.now:=⟨⟨w.drew,fun _ _ _ h=>h⟩,rfl⟩
theorem held_up {B:Nat} {w w':World} (h:Below w.heap.size w w'):∃ u:Held B w,w'=u.now:=⟨⟨w',fun _ _ _ hv=>bl_cell h hv⟩,rfl⟩
theorem held_sets {B B':Nat} {w w':World} (h:Below w.heap.size w w') (hB:B≠B') (o:Nat) (vs:List Value):∃ u:Held B w,w'.setCells B' o vs=u.now:=⟨⟨_,fun p hp v hv=>by
 rw [World.cell?_setCells_out B' vs o w' p (fun e _=>absurd (hp.symm.trans e) hB)]
 exact bl_cell h hv⟩,rfl⟩
theorem held_range {w:World} {B:Nat} {cs:List Value} (h:Bx w B cs):∀ w',(∃ u:Held B w,w'=u.now)→w'.rangeAt B 0 cs:=by
 rintro _ ⟨u,rfl⟩ j v hj
 exact u.kept _ rfl _ (by simpa using h.cell j hj)
theorem wp_region_callsS {P:Program} {id:Nat} {Q:Exit→Act→World→Prop} {a:Act} {w:World} {l:List Oper} (S:World→Prop) (plan:List (List Nat×Nat)) (fin:List Nat) (hm:P.follows .mixedOrders=true) (hB:planOk l plan fin=true)
  (hn:l.length=(plan.map fun x=>x.1.length+1).sum+fin.length) (hQ:∀ c (a:Act) d v w,Q (.panic c) (a.put d v) w→Q (.panic c) a w)
  (hS:S w.drew) (h:walkC P l Q S plan fin a w.drew):(Code.region id l.toArray true).wp P Q a w:=by
 simp only [planOk,Bool.and_eq_true] at hB
 refine wp_region_held_drew (S:=S) hm hS fun _=>?_
 have:=walkC_wp (S:=S) hB.1 hQ fin plan _ a w.drew hS hB.2 h 0
 rw [Nat.add_zero,←hn] at this
 simpa using this
def enc (l:List Int):List Value:=l.map (Value.int .i64)
def Nums (w:World) (a:Option Addr) (l:List Int):Prop:=l=[]∨∃ b off,a=some ⟨b,off,none⟩∧∀ j x,l[j]?=some x→w.cell? ⟨b,off+j,none⟩=some (.int .i64 x)
theorem Nums.nil {w:World} {a:Option Addr}:Nums w a []:=.inl rfl
theorem Nums.up {w w':World} {a:Option Addr} {l:List Int} (h:Nums w a l) (hb:Below w.heap.size w w'):Nums w' a l:=by
 rcases h with h | ⟨b,off,e,h⟩
 ·exact .inl h
 ·exact .inr ⟨b,off,e,fun j x hx=>bl_cell hb (h j x hx)⟩
theorem Nums.take {w:World} {a:Option Addr} {l:List Int} (h:Nums w a l) (k:Nat):Nums w a (l.take k):=by
 rcases h with rfl | ⟨b,off,e,h⟩
 ·exact .inl (by simp)
 ·refine .inr ⟨b,off,e,fun j x hx=>h j x ?_⟩
  rw [List.getElem?_take] at hx
  split at hx
  ·exact hx
  ·cases hx
theorem Nums.drop {w:World} {b off:Nat} {l:List Int} (h:Nums w (some ⟨b,off,none⟩) l) (k:Nat):Nums w (some ⟨b,off+k,none⟩) (l.drop k):=by
 rcases h with rfl | ⟨b',off',e,h⟩
 ·exact .inl (by simp)
 ·cases e
  refine .inr ⟨b,off+k,rfl,fun j x hx=>?_⟩
  rw [List.getElem?_drop] at hx
  rw [Nat.add_assoc]
  exact h _ x hx
theorem Nums.cell {w:World} {a:Option Addr} {l:List Int} (h:Nums w a l) (hl:0<l.length):∃ b off,a=some ⟨b,off,none⟩∧∀ j x,l[j]?=some x→w.cell? ⟨b,off+j,none⟩=some (.int .i64 x):=by
 rcases h with rfl | h
 ·simp at hl
 ·exact h
theorem Nums.own {w:World} {base:Nat} {v:Value} {l:List Int} (h:w.ownsRow base 3 1 v l.length (enc l)):∃ a c,v=.slice a l.length c∧Nums w a l∧(∀ p,a=some p→p.block<w.heap.size∧base≤p.block):=by
 rcases h.2 with ⟨rfl,h0⟩ | ⟨g,cap,cur,rfl,hb,hg,hcap,hmax,hsz,htk⟩
 ·exact ⟨none,0,by rw [h0],.inl (List.eq_nil_of_length_eq_zero h0),fun p hp=>by cases hp⟩
 ·refine ⟨some ⟨g,0,none⟩,cap,rfl,.inr ⟨g,0,rfl,fun j x hx=>?_⟩,fun p hp=>by cases hp;exact ⟨(Array.getElem?_eq_some_iff.1 hg).1,hb⟩⟩
  have:=h.cells (g:=g) rfl j (.int .i64 x) (by simp [enc,hx])
  rwa [show (⟨g,0,none⟩:Addr).add j=⟨g,0+j,none⟩ by unfold Addr.add;split<;>simp_all] at this
theorem Nums.but {D R:Nat} {w w':World} {a:Option Addr} {l:List Int} (h:Nums w a l) (hb:But D R w w') (hn:∀ p,a=some p→p.block≠D∧p.block≠R):Nums w' a l:=by
 rcases h with h | ⟨b,off,rfl,h⟩
 ·exact .inl h
 ·obtain ⟨h1,h2⟩:=hn _ rfl
  exact .inr ⟨b,off,rfl,fun j x hx=>(World.cell?_of_block (hb.block b (World.block_lt_of_cell? w _ (h j x hx)) h1 h2)).trans (h j x hx)⟩
def RowAt (w:World) (R:Nat) (v:Value) (l:List Int):Prop :=
 (v=.slice none 0 0∧l=[])∨∃ off c cur,v=.slice (some ⟨R,off,none⟩) l.length c∧w.heap[R]?=some (.cells cur 3 (0,0))∧l.length≤c∧c≤maxLen∧off+c≤cur.size∧∀ j x,l[j]?=some x→w.cell? ⟨R,off+j,none⟩=some (.int .i64 x)
theorem RowAt.kept {w w':World} {R:Nat} {v:Value} {l:List Int} (h:RowAt w R v l) (hb:R<w.heap.size→w'.heap[R]?=w.heap[R]?):RowAt w' R v l:=by
 rcases h with h | ⟨off,c,cur,hv,hc,h1,h2,h3,h4⟩
 ·exact .inl h
 ·have e:=hb (Array.getElem?_eq_some_iff.1 hc).1
  exact .inr ⟨off,c,cur,hv,e.trans hc,h1,h2,h3,fun j x hx=>(World.cell?_of_block (a:=⟨R,off+j,none⟩) e).trans (h4 j x hx)⟩
theorem RowAt.of {w:World} {base:Nat} {v:Value} {l:List Int} (h:w.ownsRow base 3 1 v l.length (enc l)) (D:Nat):∃ R,RowAt w R v l∧((v=.slice none 0 0∧R=D)∨(base≤R∧R<w.heap.size∧v≠.slice none 0 0)):=by
 obtain ⟨a,c,e,hn,_⟩:=Nums.own h
 rcases h.2 with ⟨rfl,h0⟩ | ⟨g,cap,cur,rfl,hb,hg,hcap,hmax,hsz,htk⟩
 ·exact ⟨D,.inl ⟨rfl,List.eq_nil_of_length_eq_zero h0⟩,.inl ⟨rfl,rfl⟩⟩
 ·refine ⟨g,.inr ⟨0,cap,cur,rfl,hg,hcap,hmax,by omega,?_⟩,.inr ⟨hb,(Array.getElem?_eq_some_iff.1 hg).1,by simp⟩⟩
  intro j x hx
  rcases hn with h0 | ⟨b,off,e1,h1⟩
  ·rw [h0] at hx;simp at hx
  ·cases e
   cases e1
   exact h1 j x hx
set_option maxRecDepth 100000 in
set_option maxHeartbeats 2000000 in
theorem refAll_any (cs:List Value) (n:Nat→Int) (w:World) (hv:∀ k,k<28→cs[cellJ k]?=some (.int .i64 (n k))) :
  Calls Tryz.prog 20 #[.agg cs.toArray] w fun e w'=>∃ g,e=.returned (.slice (some ⟨g,0,none⟩) 28 28)∧w.heap.size≤g∧Bx w' g (enc (numsL n))∧Below w.heap.size w w':=by
 have HB:=Lib.hid (up_alloc (Below.refl w.heap.size w) (.cells cs.toArray 29))
 have HX:=Bx.new w 29 cs
 have c0:(w.alloc (.cells cs.toArray 29)).cell? ⟨w.heap.size,1,none⟩=some (.int .i64 (n 0)):=HX.cell 1 (hv 0 (by decide))
 have c1:(w.alloc (.cells cs.toArray 29)).cell? ⟨w.heap.size,2,none⟩=some (.int .i64 (n 1)):=HX.cell 2 (hv 1 (by decide))
 have c2:(w.alloc (.cells cs.toArray 29)).cell? ⟨w.heap.size,3,none⟩=some (.int .i64 (n 2)):=HX.cell 3 (hv 2 (by decide))
 have c3:(w.alloc (.cells cs.toArray 29)).cell? ⟨w.heap.size,4,none⟩=some (.int .i64 (n 3)):=HX.cell 4 (hv 3 (by decide))
 have c4:(w.alloc (.cells cs.toArray 29)).cell? ⟨w.heap.size,5,none⟩=some (.int .i64 (n 4)):=HX.cell 5 (hv 4 (by decide))
 have c5:(w.alloc (.cells cs.toArray 29)).cell? ⟨w.heap.size,6,none⟩=some (.int .i64 (n 5)):=HX.cell 6 (hv 5 (by decide))
 have c6:(w.alloc (.cells cs.toArray 29)).cell? ⟨w.heap.size,7,none⟩=some (.int .i64 (n 6)):=HX.cell 7 (hv 6 (by decide))
 have c7:(w.alloc (.cells cs.toArray 29)).cell? ⟨w.heap.size,8,none⟩=some (.int .i64 (n 7)):=HX.cell 8 (hv 7 (by decide))
 have c8:(w.alloc (.cells cs.toArray 29)).cell? ⟨w.heap.size,9,none⟩=some (.int .i64 (n 8)):=HX.cell 9 (hv 8 (by decide))
 have c9:(w.alloc (.cells cs.toArray 29)).cell? ⟨w.heap.size,10,none⟩=some (.int .i64 (n 9)):=HX.cell 10 (hv 9 (by decide))
 have c10:(w.alloc (.cells cs.toArray 29)).cell? ⟨w.heap.size,11,none⟩=some (.int .i64 (n 10)):=HX.cell 11 (hv 10 (by decide))
 have c11:(w.alloc (.cells cs.toArray 29)).cell? ⟨w.heap.size,16,none⟩=some (.int .i64 (n 11)):=HX.cell 16 (hv 11 (by decide))
 have c12:(w.alloc (.cells cs.toArray 29)).cell? ⟨w.heap.size,17,none⟩=some (.int .i64 (n 12)):=HX.cell 17 (hv 12 (by decide))
 have c13:(w.alloc (.cells cs.toArray 29)).cell? ⟨w.heap.size,18,none⟩=some (.int .i64 (n 13)):=HX.cell 18 (hv 13 (by decide))
 have c14:(w.alloc (.cells cs.toArray 29)).cell? ⟨w.heap.size,19,none⟩=some (.int .i64 (n 14)):=HX.cell 19 (hv 14 (by decide))
 have c15:(w.alloc (.cells cs.toArray 29)).cell? ⟨w.heap.size,20,none⟩=some (.int .i64 (n 15)):=HX.cell 20 (hv 15 (by decide))
 have c16:(w.alloc (.cells cs.toArray 29)).cell? ⟨w.heap.size,21,none⟩=some (.int .i64 (n 16)):=HX.cell 21 (hv 16 (by decide))
 have c17:(w.alloc (.cells cs.toArray 29)).cell? ⟨w.heap.size,22,none⟩=some (.int .i64 (n 17)):=HX.cell 22 (hv 17 (by decide))
 have c18:(w.alloc (.cells cs.toArray 29)).cell? ⟨w.heap.size,23,none⟩=some (.int .i64 (n 18)):=HX.cell 23 (hv 18 (by decide))
 have c19:(w.alloc (.cells cs.toArray 29)).cell? ⟨w.heap.size,24,none⟩=some (.int .i64 (n 19)):=HX.cell 24 (hv 19 (by decide))
 have c20:(w.alloc (.cells cs.toArray 29)).cell? ⟨w.heap.size,25,none⟩=some (.int .i64 (n 20)):=HX.cell 25 (hv 20 (by decide))
 have c21:(w.alloc (.cells cs.toArray 29)).cell? ⟨w.heap.size,26,none⟩=some (.int .i64 (n 21)):=HX.cell 26 (hv 21 (by decide))
 have c22:(w.alloc (.cells cs.toArray 29)).cell? ⟨w.heap.size,27,none⟩=some (.int .i64 (n 22)):=HX.cell 27 (hv 22 (by decide))
 have c23:(w.alloc (.cells cs.toArray 29)).cell? ⟨w.heap.size,28,none⟩=some (.int .i64 (n 23)):=HX.cell 28 (hv 23 (by decide))
 have c24:(w.alloc (.cells cs.toArray 29)).cell? ⟨w.heap.size,29,none⟩=some (.int .i64 (n 24)):=HX.cell 29 (hv 24 (by decide))
 have c25:(w.alloc (.cells cs.toArray 29)).cell? ⟨w.heap.size,30,none⟩=some (.int .i64 (n 25)):=HX.cell 30 (hv 25 (by decide))
 have c26:(w.alloc (.cells cs.toArray 29)).cell? ⟨w.heap.size,31,none⟩=some (.int .i64 (n 26)):=HX.cell 31 (hv 26 (by decide))
 have c27:(w.alloc (.cells cs.toArray 29)).cell? ⟨w.heap.size,32,none⟩=some (.int .i64 (n 27)):=HX.cell 32 (hv 27 (by decide))
 clear HX hv
 have HZ:=Lib.hid (World.size_alloc w (.cells cs.toArray 29))
 generalize hw1:w.alloc (.cells cs.toArray 29)=w1 at *
 have HW:=Lib.hid hw1
 go_enter Tryz.func20,Tryz.ntmps20
 go_wp2
 go_ret
 exact ⟨w1.heap.size,rfl,by rw [HZ.out];omega,Bx.new w1 3 _,up_alloc HB.out _⟩
set_option maxRecDepth 100000 in
theorem refFrom_any (w:World):Calls Tryz.prog 21 #[] w fun e w'=>∃ g,e=.returned (.slice (some ⟨g,0,none⟩) 28 28)∧w.heap.size≤g∧Bx w' g (enc fromL)∧Below w.heap.size w w':=by
 go_enter Tryz.func21,Tryz.ntmps21
 go_wp2
 go_ret
 exact ⟨w.heap.size,rfl,Nat.le_refl _,Bx.new w 3 _,up_alloc (Below.refl _ _) _⟩
set_option maxRecDepth 100000 in
theorem refTo_any (w:World):Calls Tryz.prog 22 #[] w fun e w'=>∃ g,e=.returned (.slice (some ⟨g,0,none⟩) 28 28)∧w.heap.size≤g∧Bx w' g (enc toL)∧Below w.heap.size w w':=by
 go_enter Tryz.func22,Tryz.ntmps22
 go_wp2
 go_ret
 exact ⟨w.heap.size,rfl,Nat.le_refl _,Bx.new w 3 _,up_alloc (Below.refl _ _) _⟩
end Go.Proofs.YtbbjileignefbaaGreatDoor
namespace Go.Proofs.YtbbjileignefbaaGreatDoor
abbrev Tr:=Option Nat×List Nat×List Nat
def tripOf (ops:Array Oper) (o:Oper):Tr:=(o.dst,o.looksAt ops,(o.after.toList.filter (Region.binds .any)).map (·.on))
def apartT (t s:Tr):Bool :=
 (match t.1 with | some d=>!s.2.1.contains d&&s.1 != some d | none=>true)&&(match s.1 with | some d=>!t.2.1.contains d | none=>true)
def backQ:Nat→List Tr→Bool
 | _,[]=>true
 | k,t :: r=>t.2.2.all (fun j=>decide (j<k))&&backQ (k+1) r
def freeT:Nat→Nat→List Tr→Bool
 | 0,_,_=>true
 | _,_,[]=>true
 | f+1,k,t :: r=>r.all (fun s=>s.2.2.contains k || apartT t s)&&freeT f (k+1) r
def chainT:Nat→List Tr→Bool
 | _,[]=>true
 | k,t :: r=>t.2.2.contains (k-1)&&chainT (k+1) r
def sinkT (T:List Tr) (n:Nat):Bool:=(List.range n).all fun i=>T.any fun t=>t.2.2.contains i
def quickT (T:List Tr) (n:Nat):Bool:=decide (n<T.length)&&backQ 0 T&&freeT n 0 T&&sinkT (T.take (n+1)) n&&chainT (n+1) (T.drop (n+1))
def forceN {β:Type}:List Nat→(List Nat→β)→β
 | [],k=>k []
 | x :: xs,k=>forceN xs fun ys=>k (x :: ys)
theorem forceN_eq {β:Type} (l:List Nat) (k:List Nat→β):forceN l k=k l:=by
 induction l generalizing k with
 | nil=>rfl
 | cons x xs ih=>simp only [forceN,ih]
def forceT {β:Type}:List Tr→(List Tr→β)→β
 | [],k=>k []
 | x :: xs,k=>forceN x.2.1 fun a=>forceN x.2.2 fun b=>forceT xs fun ys=>k ((x.1,a,b) :: ys)
theorem forceT_eq {β:Type} (l:List Tr) (k:List Tr→β):forceT l k=k l:=by
 induction l generalizing k with
 | nil=>rfl
 | cons x xs ih=>simp only [forceT,forceN_eq,ih]
def quickB (l:List Oper) (n:Nat):Bool:=Region.noSelect l.toArray&&forceT (l.map (tripOf l.toArray)) fun T=>quickT T n
theorem backT_spec:∀ (T:List Tr) (k:Nat),backQ k T=true→∀ i t,T[i]?=some t→∀ j∈t.2.2,j<k+i
 | [],_,_,i,t,ht,_,_=>by simp at ht
 | t0 :: r,k,h,i,t,ht,j,hj=>by
  simp only [backQ,Bool.and_eq_true,List.all_eq_true,decide_eq_true_eq] at h
  cases i with
  | zero=>simp only [List.getElem?_cons_zero,Option.some.injEq] at ht;subst ht;exact h.1 j hj
  | succ i=>have:=backT_spec r (k+1) h.2 i t (by simpa using ht) j hj;omega
theorem freeT_spec:∀ (f:Nat) (T:List Tr) (k:Nat),freeT f k T=true→∀ i t,i<f→T[i]?=some t→∀ j s,i<j→T[j]?=some s→(s.2.2.contains (k+i) || apartT t s)=true
 | 0,_,_,_,i,_,hi,_,_,_,_,_=>by omega
 | f+1,[],_,_,i,t,_,ht,_,_,_,_=>by simp at ht
 | f+1,t0 :: r,k,h,i,t,hi,ht,j,s,hij,hs=>by
  simp only [freeT,Bool.and_eq_true,List.all_eq_true] at h
  obtain ⟨j,rfl⟩:∃ m,j=m+1:=⟨j-1,by omega⟩
  simp only [List.getElem?_cons_succ] at hs
  cases i with
  | zero =>
   simp only [List.getElem?_cons_zero,Option.some.injEq] at ht
   subst ht
   exact h.1 s (List.mem_of_getElem? hs)
  | succ i =>
   have:=freeT_spec f r (k+1) h.2 i t (by omega) (by simpa using ht) j s (by omega) hs
   rwa [show k+(i+1)=k+1+i by omega]
theorem chainT_spec:∀ (T:List Tr) (k:Nat),chainT k T=true→∀ (i:Nat) (t:Tr),T[i]?=some t→t.2.2.contains (k+i-1)=true
 | [],_,_,i,t,ht=>by simp at ht
 | t0 :: r,k,h,i,t,ht=>by
  simp only [chainT,Bool.and_eq_true] at h
  cases i with
  | zero=>simp only [List.getElem?_cons_zero,Option.some.injEq] at ht;subst ht;simpa using h.1
  | succ i =>
   have:=chainT_spec r (k+1) h.2 i t (by simpa using ht)
   rwa [show k+(i+1)-1=k+1+i-1 by omega]
section
variable {l:List Oper}
theorem trip_waits {o:Oper} {i:Nat}:(tripOf l.toArray o).2.2.contains i=true↔∃ e∈o.after,Region.binds .any e=true∧e.on=i:=by
 simp only [tripOf,List.contains_iff_mem,List.mem_map,List.mem_filter,Array.mem_toList_iff]
 exact ⟨fun ⟨e,⟨h1,h2⟩,h3⟩=>⟨e,h1,h2,h3⟩,fun ⟨e,h1,h2,h3⟩=>⟨e,⟨h1,h2⟩,h3⟩⟩
theorem trip_any {o:Oper} {i:Nat} (h:(tripOf l.toArray o).2.2.contains i=true):(o.after.any fun e=>Region.binds .any e&&e.on==i)=true:=by
 obtain ⟨e,he,hb,rfl⟩:=trip_waits.1 h
 exact Array.any_eq_true'.2 ⟨e,he,by simp [hb]⟩
theorem trip_at {i:Nat} {o:Oper} (h:l[i]?=some o):(l.map (tripOf l.toArray))[i]?=some (tripOf l.toArray o):=by
 rw [List.getElem?_map,h];rfl
def Upto (l:List Oper) (k:Nat) (s:Array Bool):Prop:=s.size=l.length∧∀ j,j<l.length→s[j]?=some (decide (j<k))
theorem Upto.getD {k:Nat} {s:Array Bool} (h:Upto l k s) {j:Nat} (hj:j<l.length) (b:Bool):s.getD j b=decide (j<k):=by
 rw [Array.getD_eq_getD_getElem?,h.2 j hj];rfl
theorem Upto.next {k:Nat} {s:Array Bool} (h:Upto l k s):Upto l (k+1) (s.setIfInBounds k true):=by
 refine ⟨by rw [Array.size_setIfInBounds];exact h.1,fun j hj=>?_⟩
 rw [Array.getElem?_setIfInBounds]
 by_cases e:k=j
 ·subst e
  have:k<s.size:=by rw [h.1];exact hj
  simp [this]
 ·rw [if_neg e,h.2 j hj]
  congr 1
  by_cases hk:j<k
  ·simp [hk];omega
  ·have h1:¬ j<k+1:=by omega
   simp [hk,h1]
theorem quick_ready {k:Nat} {s:Array Bool} (h:Upto l k s) {o:Oper} (ho:l[k]?=some o) (hb:∀ j∈(tripOf l.toArray o).2.2,j<k):k∈Region.ready .any l.toArray s:=by
 have hk:k<l.length:=(List.getElem?_eq_some_iff.1 ho).1
 rw [mem_ready]
 refine ⟨by rw [h.getD hk];simp,o,by simpa using ho,fun e he hbind=>?_⟩
 have hlt:e.on<k:=hb e.on (List.contains_iff_mem.1 (trip_waits.2 ⟨e,he,hbind,rfl⟩))
 rw [h.getD (by omega)]
 simpa using hlt
theorem quick_free {k:Nat} {s:Array Bool} (h:Upto l k s) {o:Oper} (ho:l[k]?=some o)
  (hf:∀ j p,k<j→l[j]?=some p→((tripOf l.toArray p).2.2.contains k || apartT (tripOf l.toArray o) (tripOf l.toArray p))=true):Region.free .any l.toArray s k=true:=by
 have ho':l.toArray[k]?=some o:=by simpa using ho
 unfold Region.free
 rw [ho']
 simp only [List.all_eq_true,List.mem_range,List.size_toArray]
 intro j hj
 by_cases e:j=k
 ·simp [e]
 ·by_cases hk:j<k
  ·rw [h.getD hj];simp [hk]
  ·have hp:l[j]?=some l[j]:=List.getElem?_eq_getElem hj
   have hp':l.toArray[j]?=some l[j]:=by simpa using hp
   have:=hf j _ (by omega) hp
   rw [hp']
   simp only [Bool.or_eq_true] at this ⊢
   rcases this with hw | ha
   ·exact .inr (.inl (trip_any hw))
   ·exact .inr (.inr ha)
end
theorem filter_one {n k:Nat} (p:Nat→Bool) (hk:k<n) (h:∀ j,j<n→(p j=true↔j=k)):(List.range n).filter p=[k]:=by
 have:(List.range n).filter p=(List.range n).filter (·==k):=by
  apply List.filter_congr
  intro j hj
  have:=h j (List.mem_range.1 hj)
  by_cases e:j=k
  ·simp [e,(h k hk).2 rfl]
  ·have:p j=false:=by cases hp:p j with | false=>rfl | true=>exact absurd (this.1 hp) e
   simp [this,e]
 rw [this,List.filter_beq,List.nodup_range.count,if_pos (List.mem_range.2 hk)]
 rfl
theorem lexTail_quick {l:List Oper} {n:Nat} (h:quickB l n=true):Region.lexTailB .any l.toArray n=true:=by
 simp only [quickB,forceT_eq,quickT,Bool.and_eq_true,decide_eq_true_eq,List.length_map] at h
 obtain ⟨hsel,⟨⟨⟨hn,hback⟩,hfree⟩,hsink⟩,hchain⟩:=h
 have Hb:∀ k o,l[k]?=some o→∀ j∈(tripOf l.toArray o).2.2,j<k:=fun k o ho j hj=>by
  have:=backT_spec _ 0 hback k _ (trip_at ho) j hj
  omega
 have Hf:∀ k o,k<n→l[k]?=some o→∀ j p,k<j→l[j]?=some p→((tripOf l.toArray p).2.2.contains k || apartT (tripOf l.toArray o) (tripOf l.toArray p))=true:=fun k o hk ho j p hj hp=>by
  have:=freeT_spec n _ 0 hfree k _ hk (trip_at ho) j _ hj (trip_at hp)
  rwa [Nat.zero_add] at this
 have Hc:∀ t o,n<t→l[t]?=some o→(tripOf l.toArray o).2.2.contains (t-1)=true:=fun t o ht ho=>by
  have:=chainT_spec _ (n+1) hchain (t-(n+1)) (tripOf l.toArray o) (by rw [List.getElem?_drop,show n+1+(t-(n+1))=t by omega];exact trip_at ho)
  rwa [show n+1+(t-(n+1))-1=t-1 by omega] at this
 have Hs:∀ i,i<n→∃ j o,i<j∧j≤n∧l[j]?=some o∧(tripOf l.toArray o).2.2.contains i=true:=fun i hi=>by
  simp only [sinkT,List.all_eq_true,List.mem_range,List.any_eq_true] at hsink
  obtain ⟨t,ht,hc⟩:=hsink i hi
  obtain ⟨j,hj⟩:=List.getElem?_of_mem ht
  rw [List.getElem?_take] at hj
  split at hj
  ·rename_i hjn
   rw [List.getElem?_map,Option.map_eq_some_iff] at hj
   obtain ⟨o,ho,rfl⟩:=hj
   exact ⟨j,o,Hb j o ho i (List.contains_iff_mem.1 hc),by omega,ho,hc⟩
  ·cases hj
 have hsz:l.toArray.size=l.length:=by simp
 simp only [Region.lexTailB,Bool.and_eq_true,decide_eq_true_eq]
 refine ⟨⟨⟨⟨hsel,by rw [hsz];exact hn⟩,?_⟩,?_⟩,?_⟩
 ·simp only [Region.sinkB,List.all_eq_true,List.mem_range,List.any_eq_true,Bool.and_eq_true,decide_eq_true_eq]
  intro i hi
  obtain ⟨j,o,hij,hjn,ho,hc⟩:=Hs i hi
  refine ⟨j,by omega,hij,?_⟩
  unfold Region.waitsFor
  rw [show l.toArray[j]?=some o by simpa using ho]
  exact trip_any hc
 ·simp only [Region.chainB,List.all_eq_true,List.mem_range,Bool.or_eq_true,decide_eq_true_eq]
  intro t ht
  by_cases hle:t≤n
  ·exact .inl hle
  ·right
   rw [hsz] at ht
   have ho:=List.getElem?_eq_getElem ht
   unfold Region.waitsFor
   rw [show l.toArray[t]?=some l[t] by simpa using ho]
   exact trip_any (Hc t _ (by omega) ho)
 ·have hseq:∀ g k s,Upto l k s→n≤k→k+g=l.length→Region.seqB .any l.toArray g k s=true:=by
   intro g
   induction g with
   | zero =>
    intro k s hu hk hg
    simp only [Region.seqB,List.isEmpty_iff]
    apply List.eq_nil_iff_forall_not_mem.2
    intro j hj
    obtain ⟨h1,o,ho,-⟩:=mem_ready.1 hj
    have hj':j<l.length:=by have:=(Array.getElem?_eq_some_iff.1 ho).1;simpa using this
    rw [hu.getD hj'] at h1
    simp only [decide_eq_false_iff_not] at h1
    omega
   | succ g ih =>
    intro k s hu hk hg
    simp only [Region.seqB,Bool.and_eq_true,decide_eq_true_eq]
    refine ⟨?_,ih (k+1) _ hu.next (by omega) (by omega)⟩
    have hkl:k<l.length:=by omega
    have hok:=List.getElem?_eq_getElem hkl
    unfold Region.ready
    rw [hsz]
    apply filter_one _ hkl
    intro j hj
    have e:(!s.getD j true&&((l.toArray[j]?).map (·.after.all fun e=>!Region.binds .any e || s.getD e.on false)).getD false)=true↔j∈Region.ready .any l.toArray s:=by
     unfold Region.ready
     rw [List.mem_filter,List.mem_range,hsz]
     exact ⟨fun h=>⟨hj,h⟩,fun h=>h.2⟩
    rw [e]
    constructor
    ·intro hr
     obtain ⟨h1,o,ho,h2⟩:=mem_ready.1 hr
     rw [hu.getD hj] at h1
     simp only [decide_eq_false_iff_not] at h1
     by_cases ejk:j=k
     ·exact ejk
     ·have hjo:l[j]?=some o:=by simpa using ho
      obtain ⟨x,hx,hbx,hon⟩:=trip_waits.1 (Hc j o (by omega) hjo)
      have h3:=h2 x hx hbx
      rw [hu.getD (by omega)] at h3
      simp only [decide_eq_true_eq] at h3
      omega
    ·rintro rfl
     exact quick_ready hu hok (Hb _ _ hok)
  have hhead:∀ f k s,Upto l k s→k+f=n→Region.lexHead .any l.toArray (l.length-n) f k s=true:=by
   intro f
   induction f with
   | zero =>
    intro k s hu hk
    simp only [Region.lexHead]
    exact hseq _ k s hu (by omega) (by omega)
   | succ f ih =>
    intro k s hu hk
    have hkl:k<l.length:=by omega
    have hok:=List.getElem?_eq_getElem hkl
    simp only [Region.lexHead,Bool.and_eq_true]
    exact ⟨⟨List.contains_iff_mem.2 (quick_ready hu hok (Hb _ _ hok)),quick_free hu hok (fun j p hj hp=>Hf k _ (by omega) hok j p hj hp)⟩,ih (k+1) _ hu.next (by omega)⟩
  rw [hsz]
  exact hhead n 0 _ ⟨by simp,fun j hj=>by simp [hj]⟩ (by omega)
end Go.Proofs.YtbbjileignefbaaGreatDoor
namespace Go.Proofs.YtbbjileignefbaaGreatDoor
open Go.RowKit
def isAlloc (o:Oper):Bool:=match o.op with | .alloc _=>true | _=>false
def dstAt (l:List Oper) (i:Nat):Option Tmp:=(l[i]?).bind (·.dst)
def headOk (l:List Oper) (n N:Nat):Bool :=
 (List.range n).all fun i=>match l[i]? with
  | none=>false
  | some o=>(match o.dst with
    | none=>false
    | some d=>decide (d<N)&&(List.range n).all fun j=>j==i || dstAt l j != some d) &&
   (!(isAlloc o) || o.guard.isNone)&&(o.after.all fun e=>!Region.binds .any e || decide (e.on<i)) &&
   ((List.range n).all fun j=>match l[j]? with
    | none=>false
    | some oj=>match oj.dst with
     | none=>false
     | some d=>!(o.looksAt l.toArray).contains d || (decide (j<i)&&!(isAlloc oj)&&o.after.any fun e=>Region.binds .any e&&e.on==j))
theorem headOk_spec {l:List Oper} {n N:Nat} (h:headOk l n N=true) (i:Nat) (hi:i<n) :
  ∃ o d,l[i]?=some o∧o.dst=some d∧d<N∧(∀ j,j<n→j≠i→dstAt l j≠some d)∧(isAlloc o=true→o.guard=none)∧(∀ e∈o.after,Region.binds .any e=true→e.on<i) ∧
   ∀ j,j<n→∀ oj d',l[j]?=some oj→oj.dst=some d'→d'∈o.looksAt l.toArray→j<i∧isAlloc oj=false∧∃ e∈o.after,Region.binds .any e=true∧e.on=j:=by
 have h0:=List.all_eq_true.1 h i (List.mem_range.2 hi)
 cases ho:l[i]? with
 | none=>rw [ho] at h0;cases h0
 | some o =>
  rw [ho] at h0
  simp only [Bool.and_eq_true] at h0
  obtain ⟨⟨⟨h1,h2⟩,h3⟩,h4⟩:=h0
  cases hd:o.dst with
  | none=>rw [hd] at h1;cases h1
  | some d =>
   rw [hd] at h1
   simp only [Bool.and_eq_true,decide_eq_true_eq] at h1
   refine ⟨o,d,rfl,hd,h1.1,fun j hj hji=>?_,fun ha=>?_,fun e he hb=>?_,fun j hj oj d' hoj hd' hm=>?_⟩
   ·have:=List.all_eq_true.1 h1.2 j (List.mem_range.2 hj)
    simpa [hji] using this
   ·simp only [ha,Bool.not_true,Bool.false_or,Option.isNone_iff_eq_none] at h2
    exact h2
   ·have:=Array.all_eq_true_iff_forall_mem.1 h3 e he
    simpa [hb] using this
   ·have:=List.all_eq_true.1 h4 j (List.mem_range.2 hj)
    rw [hoj] at this
    simp only [hd'] at this
    have hc:(o.looksAt l.toArray).contains d'=true:=by simpa using hm
    rw [hc] at this
    simp only [Bool.not_true,Bool.false_or,Bool.and_eq_true,decide_eq_true_eq,Bool.not_eq_true'] at this
    obtain ⟨⟨k1,k2⟩,k3⟩:=this
    obtain ⟨e,he,hb⟩:=Array.any_eq_true'.1 k3
    simp only [Bool.and_eq_true,beq_iff_eq] at hb
    exact ⟨k1,k2,e,he,hb.1,hb.2⟩
section
variable {P:Program} {ops:Array Oper} {C:World→Prop} {aF:Act}
end
theorem Bx.upTo {w w':World} {B:Nat} {vs:List Value} (h:Bx w B vs) (hlt:B<w.heap.size) (hb:Below w.heap.size w w'):Bx w' B vs :=
 ⟨fun j v hj=>bl_cell hb (h.1 j v hj),fun j=>(kept_marks hb B j hlt).trans (h.2 j)⟩
structure Under (l:List Oper) (n:Nat) (Z:TypeId→List Value) (a0 aF:Act) (w1:World) (s:Array Bool) (a:Act) (w:World):Prop where
 head:HeadInv .any l.toArray n s
 size:a.tmps.size=a0.tmps.size
 defers:a.defers=a0.defers
 fill:∀ (i:Nat) (o:Oper) (t:Tmp),i<n→s.getD i false=true→l[i]?=some o→isAlloc o=false→o.dst=some t→a.tmps[t]?=aF.tmps[t]?
 rest:∀ t:Tmp,(∀ (i:Nat) (o:Oper),i<n→s.getD i false=true→l[i]?=some o→o.dst≠some t)→a.tmps[t]?=a0.tmps[t]?
 up:Below w1.heap.size w1 w
 boxes:∃ gf:Nat→Nat,∀ (i:Nat) (o:Oper) (d:Tmp) (t:TypeId),i<n→s.getD i false=true→l[i]?=some o→o.op=.alloc t→o.dst=some d →
  a.tmps[d]?=some (.pointer (some ⟨gf i,0,none⟩))∧w1.heap.size≤gf i∧gf i<w.heap.size∧Bx w (gf i) (Z t)∧∀ (j:Nat) (oj:Oper) (tj:TypeId),j<n→s.getD j false=true→l[j]?=some oj→oj.op=.alloc tj→j≠i→gf j≠gf i
theorem set_listed {s:Array Bool} {i j:Nat} (h:(s.setIfInBounds i true).getD j false=true) (hne:j≠i):s.getD j false=true:=by rwa [getD_set_ne false (Ne.symm hne)] at h
theorem Under.quiet {l:List Oper} {n N:Nat} {Z:TypeId→List Value} {a0 aF a:Act} {w1 w w':World} {s:Array Bool} (I:Under l n Z a0 aF w1 s a w) (hok:headOk l n N=true) {i:Nat} {o:Oper} {d:Tmp} {v:Value} (hi:i<n)
  (ho:l[i]?=some o) (ha:isAlloc o=false) (hd:o.dst=some d) (hr:i∈Region.ready .any l.toArray s) (hlt:d<a0.tmps.size) (hv:aF.tmps[d]?=some v) (hb:Below w.heap.size w w') :
  Under l n Z a0 aF w1 (s.setIfInBounds i true) (a.put o.dst v) w':=by
 obtain ⟨o',d',ho',hd',_,hdis,_,_,_⟩:=headOk_spec hok i hi
 obtain rfl:o'=o:=Option.some.inj (ho'.symm.trans ho)
 obtain rfl:d'=d:=Option.some.inj (hd'.symm.trans hd)
 have other:∀ (j:Nat) (oj:Oper),j<n→l[j]?=some oj→j≠i→∀ t,oj.dst=some t→d'≠t:=fun j oj hj hoj hji t ht e=>hdis j hj hji (by subst e;simp [dstAt,hoj,ht])
 have putNe:∀ t,d'≠t→(a.put o'.dst v).tmps[t]?=a.tmps[t]?:=fun t ht=>by rw [hd];simp [Act.put,Array.getElem?_setIfInBounds_ne ht]
 have putAt:(a.put o'.dst v).tmps[d']?=some v:=by rw [hd];simp [Act.put,I.size,hlt]
 refine ⟨I.head.set hr hi,by rw [hd];simp [Act.put,I.size],by rw [hd];simp [Act.put,I.defers],fun j oj t hj hl hoj hja hjd=>?_,fun t ht=>?_,up_trans I.up hb,?_⟩
 ·by_cases e:j=i
  ·subst e
   obtain rfl:oj=o':=Option.some.inj (hoj.symm.trans ho)
   obtain rfl:t=d':=Option.some.inj (hjd.symm.trans hd)
   rw [putAt,hv]
  ·rw [putNe t (other j oj hj hoj e t hjd)]
   exact I.fill j oj t hj (set_listed hl e) hoj hja hjd
 ·have hsi:(s.setIfInBounds i true).getD i false=true:=by
   have:i<s.size:=by rw [I.head.size];exact (List.getElem?_eq_some_iff.1 ho).1
   simp [this]
  rw [putNe t fun e=>ht i o' hi hsi ho (by rw [hd,e])]
  exact I.rest t fun j oj hj hl hoj=>ht j oj hj (getD_set_true hl) hoj
 ·obtain ⟨gf,hg⟩:=I.boxes
  refine ⟨gf,fun j oj dj t hj hl hoj hop hjd=>?_⟩
  have hja:isAlloc oj=true:=by simp [isAlloc,hop]
  have e:j≠i:=fun e=>by
   subst e
   obtain rfl:oj=o':=Option.some.inj (hoj.symm.trans ho)
   rw [hja] at ha;cases ha
  obtain ⟨g1,g2,g3,g4,g5⟩:=hg j oj dj t hj (set_listed hl e) hoj hop hjd
  refine ⟨by rw [putNe dj (other j oj hj hoj e dj hjd)];exact g1,g2,Nat.lt_of_lt_of_le g3 hb.size,g4.upTo g3 hb,fun k ok tk hk hkl hok' hkop hkj=>?_⟩
  have e':k≠i:=fun e=>by
   subst e
   obtain rfl:ok=o':=Option.some.inj (hok'.symm.trans ho)
   have:isAlloc ok=true:=by simp [isAlloc,hkop]
   rw [this] at ha;cases ha
  exact g5 k ok tk hk (set_listed hkl e') hok' hkop hkj
theorem Under.box {l:List Oper} {n N:Nat} {Z:TypeId→List Value} {a0 aF a:Act} {w1 w:World} {s:Array Bool} (I:Under l n Z a0 aF w1 s a w) (hok:headOk l n N=true) {i:Nat} {o:Oper} {d:Tmp} {t:TypeId} (hi:i<n)
  (ho:l[i]?=some o) (ha:o.op=.alloc t) (hd:o.dst=some d) (hr:i∈Region.ready .any l.toArray s) (hlt:d<a0.tmps.size) :
  Under l n Z a0 aF w1 (s.setIfInBounds i true) (a.put o.dst (.pointer (some ⟨w.heap.size,0,none⟩))) (w.alloc (.cells (Z t).toArray t)):=by
 obtain ⟨o',d',ho',hd',_,hdis,_,_,_⟩:=headOk_spec hok i hi
 obtain rfl:o'=o:=Option.some.inj (ho'.symm.trans ho)
 obtain rfl:d'=d:=Option.some.inj (hd'.symm.trans hd)
 have hal:isAlloc o'=true:=by simp [isAlloc,ha]
 have hb:Below w.heap.size w (w.alloc (.cells (Z t).toArray t)):=up_alloc (Below.refl _ _) _
 have other:∀ (j:Nat) (oj:Oper),j<n→l[j]?=some oj→j≠i→∀ t,oj.dst=some t→d'≠t:=fun j oj hj hoj hji t ht e=>hdis j hj hji (by subst e;simp [dstAt,hoj,ht])
 have putNe:∀ v t,d'≠t→(a.put o'.dst v).tmps[t]?=a.tmps[t]?:=fun v t ht=>by rw [hd];simp [Act.put,Array.getElem?_setIfInBounds_ne ht]
 have putAt:∀ v,(a.put o'.dst v).tmps[d']?=some v:=fun v=>by rw [hd];simp [Act.put,I.size,hlt]
 refine ⟨I.head.set hr hi,by rw [hd];simp [Act.put,I.size],by rw [hd];simp [Act.put,I.defers],fun j oj t hj hl hoj hja hjd=>?_,fun t ht=>?_,up_trans I.up hb,?_⟩
 ·have e:j≠i:=fun e=>by
   subst e
   obtain rfl:oj=o':=Option.some.inj (hoj.symm.trans ho)
   rw [hal] at hja;cases hja
  rw [putNe _ t (other j oj hj hoj e t hjd)]
  exact I.fill j oj t hj (set_listed hl e) hoj hja hjd
 ·have hsi:(s.setIfInBounds i true).getD i false=true:=by
   have:i<s.size:=by rw [I.head.size];exact (List.getElem?_eq_some_iff.1 ho).1
   simp [this]
  rw [putNe _ t fun e=>ht i o' hi hsi ho (by rw [hd,e])]
  exact I.rest t fun j oj hj hl hoj=>ht j oj hj (getD_set_true hl) hoj
 ·obtain ⟨gf,hg⟩:=I.boxes
  refine ⟨fun k=>if k=i then w.heap.size else gf k,fun j oj dj tj hj hl hoj hop hjd=>?_⟩
  by_cases e:j=i
  ·subst e
   obtain rfl:oj=o':=Option.some.inj (hoj.symm.trans ho)
   obtain rfl:dj=d':=Option.some.inj (hjd.symm.trans hd)
   obtain rfl:tj=t:=by rw [ha] at hop;injection hop with hop;exact hop.symm
   simp only [if_true]
   refine ⟨putAt _,I.up.size,by simp,Bx.new w tj (Z tj),fun k ok tk hk hkl hok' hkop hkj=>?_⟩
   rw [if_neg hkj]
   cases hkd:ok.dst with
   | none =>
    obtain ⟨o2,d2,h2,h3,_⟩:=headOk_spec hok k hk
    obtain rfl:o2=ok:=Option.some.inj (h2.symm.trans hok')
    rw [hkd] at h3;cases h3
   | some dk =>
    have:=(hg k ok dk tk hk (set_listed hkl hkj) hok' hkop hkd).2.2.1
    omega
  ·obtain ⟨g1,g2,g3,g4,g5⟩:=hg j oj dj tj hj (set_listed hl e) hoj hop hjd
   simp only [if_neg e]
   refine ⟨by rw [putNe _ dj (other j oj hj hoj e dj hjd)];exact g1,g2,Nat.lt_of_lt_of_le g3 hb.size,g4.upTo g3 hb,fun k ok tk hk hkl hok' hkop hkj=>?_⟩
   by_cases e':k=i
   ·subst e';simp only [if_true];omega
   ·rw [if_neg e'];exact g5 k ok tk hk (set_listed hkl e') hok' hkop hkj
end Go.Proofs.YtbbjileignefbaaGreatDoor
namespace Go.Proofs.YtbbjileignefbaaGreatDoor
open Go.RowKit
def zeroL:List Value:=jobL ⟨#[]⟩ (fun _=>0) 0 0 (.slice none 0 0) (.slice none 0 0)
theorem job_alloc (w:World):(Instr.alloc 29 true (.tuple #[])).run Tryz.prog w=.ok (.pointer (some ⟨w.heap.size,0,none⟩)) (w.alloc (.cells zeroL.toArray 29)):=by
 kernel_rfl
def firstN (k:Nat) (n:Nat→Int):Nat→Int:=fun i=>if i<k then n i else 0
def PutRel (w:World) (g g2:Nat) (t:ByteArray) (m:Nat→Int) (c r:Int) (fv lv:Value) (i:Nat) (wx:World):Prop :=
 Bx wx g2 (jobL t (firstN i m) c r fv lv)∧Bx wx g (enc (numsL m))∧Bx wx (w.heap.size+1) zeroL∧Below w.heap.size w wx
theorem firstN_next (i:Nat) (m:Nat→Int):setN (firstN i m) i (m i)=firstN (i+1) m:=by
 funext j
 unfold setN firstN
 by_cases h:j=i
 ·subst h;simp
 ·have:(j<i+1)=(j<i):=by apply propext;omega
  rw [if_neg h]
  simp only [this]
theorem PutRel.put {w:World} {g g2:Nat} {t:ByteArray} {m:Nat→Int} {c r:Int} {fv lv:Value} {wx:World} {i:Nat} (h:PutRel w g g2 t m c r fv lv i wx) (hn:g≠g2∧w.heap.size+1≠g2∧w.heap.size≤g2) (hi:i<28):PutRel w g g2 t m c r fv lv (i+1) (wx.setCell ⟨g2,cellJ i,none⟩ (.int .i64 (m i))):=by
 refine ⟨?_,h.2.1.far (p:=⟨g2,cellJ i,none⟩) (fun e=>hn.1 e.symm) _,h.2.2.1.far (p:=⟨g2,cellJ i,none⟩) (fun e=>hn.2.1 e.symm) _,h.2.2.2.setCell (p:=⟨g2,cellJ i,none⟩) hn.2.2 _⟩
 have:=h.1.set (cellJ i) (.int .i64 (m i))
 rwa [job_set _ _ _ _ _ _ hi,firstN_next] at this
def usualL:List Int:=[16,0,0,148000,210000,3000,5000,5000,5000,0,1,1,640000,900000,10000,12000,8000,100,1,1,0,5000,3000,100,20000,5000,10,0]
def usualN (i:Nat):Int:=usualL.getD i 0
def usualF:Sc:=⟨2,2,[⟨3,1,false⟩,⟨1,1,false⟩]⟩
def usualJ:Jb:=⟨[98,111,111,107],usualN,usualF,[]⟩
theorem keep_sets (w:World) (B o:Nat) (ws:List Value):∀ p:Addr,p.block≠B→∀ v,w.cell? p=some v→(w.setCells B o ws).cell? p=some v:=fun p hp v hv=>by
 rw [World.cell?_setCells_out B ws o w p (fun e _=>absurd e hp)]
 exact hv
theorem wpList_build_job {ops:Array Oper} {rest:List Oper} {o:Oper} {a:Act} {w:World} {Q:Exit→Act→World→Prop} (hg:o.guard=none) (parts:Array (Nat×Operand)) (ho:o.op=.build 29 parts) (cells:Array Value)
  (hc:Tryz.prog.built 29 (parts.map fun (i,x)=>(i,a.eval x)).toList=some cells) (h:wpList Tryz.prog ops Q rest (a.put o.dst (.agg cells)) w):wpList Tryz.prog ops Q (o :: rest) a w :=
 wpList_build_to hg _ parts ho cells hc h
set_option maxRecDepth 100000 in
theorem refUsual_any (w:World):Calls Tryz.prog 15 #[] w fun e w'=>∃ cs,e=.returned (.agg cs.toArray)∧JobF w.heap.size w' cs usualJ∧Below w.heap.size w w':=by
 have HR:=Bx.new w 29 zeroL
 have HB:=up_alloc (Below.refl w.heap.size w) (.cells zeroL.toArray 29)
 have HZ:=World.size_alloc w (.cells zeroL.toArray 29)
 obtain ⟨w1,hw1⟩:∃ w1,w.alloc (.cells zeroL.toArray 29)=w1:=⟨_,rfl⟩
 have R2:=HR.later (by decide) (up_alloc (Below.refl _ _) (.cells #[.int .i64 3,.int .i64 1,.bool false,.int .i64 1,.int .i64 1,.bool false] 58))
 have B2:=up_alloc HB (.cells #[.int .i64 3,.int .i64 1,.bool false,.int .i64 1,.int .i64 1,.bool false] 58)
 have S2:=Bx.new (w.alloc (.cells zeroL.toArray 29)) 58 [.int .i64 3,.int .i64 1,.bool false,.int .i64 1,.int .i64 1,.bool false]
 rw [hw1] at R2 B2 S2 HZ
 have HR2:=Lib.hid R2;have HB2:=Lib.hid B2;have HS2:=Lib.hid S2;have HZ2:=Lib.hid HZ;have HW:=Lib.hid hw1
 clear R2 B2 S2 HR HB HZ hw1
 go_enter Tryz.func15,Tryz.ntmps15
 go_wp2_with (first
  | (refine wpList_alloc_to rfl 29 rfl _ _ (job_alloc _) ?_;simp only [Act.put,HW.out,List.setIfInBounds_toArray,List.set_cons_succ,List.set_cons_zero])
  | (refine wpList_build_job rfl _ rfl (jobL (tx usualJ.t) usualN 2 2 (.slice (some ⟨w1.heap.size,0,none⟩) 2 2) (.slice none 0 0)).toArray ?_ ?_;kernel_rfl;simp only [Act.put,List.setIfInBounds_toArray,List.set_cons_succ,List.set_cons_zero])
  | (refine wpList_store_job rfl _ _ rfl w.heap.size rfl zeroL (jobL (tx usualJ.t) usualN 2 2 (.slice (some ⟨w1.heap.size,0,none⟩) 2 2) (.slice none 0 0)) rfl HR2.out rfl rfl (job_one _ _ _ _ _ _ _ _ _ _) ?_;simp only [Act.put]))
 have hz:=HZ2.out
 have R3:=HR2.out.sets (ws:=jobL (tx usualJ.t) usualN 2 2 (.slice (some ⟨w1.heap.size,0,none⟩) 2 2) (.slice none 0 0)) rfl
 have B3:=below_setCells (Nat.le_refl w.heap.size) (jobL (tx usualJ.t) usualN 2 2 (.slice (some ⟨w1.heap.size,0,none⟩) 2 2) (.slice none 0 0)) 0 _ HB2.out
 have S3:=sets_far HS2.out (show w1.heap.size≠w.heap.size by omega) 0 (jobL (tx usualJ.t) usualN 2 2 (.slice (some ⟨w1.heap.size,0,none⟩) 2 2) (.slice none 0 0))
 refine bodyPost_ret (v:=.agg (jobL (tx usualJ.t) usualN 2 2 (.slice (some ⟨w1.heap.size,0,none⟩) 2 2) (.slice none 0 0)).toArray) (results_wide Tryz.results15 w.heap.size rfl _ _ R3.range Tryz.underlying29 rfl infoJob) rfl
  ⟨_,rfl,⟨some ⟨w1.heap.size,0,none⟩,2,none,0,rfl,.inr ⟨w1.heap.size,0,rfl,by omega,fun j p hp=>?_⟩,.inl rfl⟩,B3⟩
 match j,hp with
 | 0,hp=>cases hp;exact ⟨S3.cell 0 rfl,S3.cell 1 rfl,S3.cell 2 rfl⟩
 | 1,hp=>cases hp;exact ⟨S3.cell 3 rfl,S3.cell 4 rfl,S3.cell 5 rfl⟩
 | j+2,hp=>simp [usualJ,usualF] at hp
theorem zero_part:(Tryz.prog.info? 54).map (·.size)=some 7:=by kernel_rfl
set_option maxHeartbeats 1000000 in
theorem spPart_no (cs:List Value) (N:Int) (u v:Bool) (w:World) (h1:cs[1]?=some (.int .i64 N)) (hL:cs.length=33) (h:(u&&v)=false)
  (KL:∀ w1,Below w.heap.size w w1→Calls Tryz.prog 44 #[.agg cs.toArray] w1 fun e w'=>e=.returned (.bool u)∧Below w1.heap.size w1 w')
  (KI:∀ w1,Calls Tryz.prog 36 #[.int .i64 N,.int .i64 1,.int .i64 100000] w1 fun e w'=>e=.returned (.bool v)∧w1=w') :
  Calls Tryz.prog 27 #[.agg cs.toArray] w fun e w'=>e=.returned (.agg #[.int .i64 0,.int .i64 0,.int .i64 0,.slice none 0 0,.int .i64 0,.int .i64 0,.slice none 0 0])∧Below w.heap.size w w':=by
 have X1:=(Bx.new w 29 cs)
 have U1:=up_alloc (Below.refl w.heap.size w) (.cells cs.toArray 29)
 have V1:=up_alloc (Below.refl _ (w.alloc (.cells cs.toArray 29))) (.cells #[.int .i64 0,.int .i64 0,.int .i64 0,.slice none 0 0,.int .i64 0,.int .i64 0,.slice none 0 0] 54)
 have HX:=Lib.hid (X1.later (by rw [hL];decide) V1)
 have HB:=Lib.hid (up_trans U1 V1)
 have R1:=Bx.new (w.alloc (.cells cs.toArray 29)) 54 [.int .i64 0,.int .i64 0,.int .i64 0,.slice none 0 0,.int .i64 0,.int .i64 0,.slice none 0 0]
 rw [World.size_alloc] at R1
 have HR:=Lib.hid R1
 have HL:=Lib.hid hL;have HKL:=Lib.hid KL;have HKI:=Lib.hid KI
 clear X1 U1 V1 R1 hL KL KI
 go_enter Tryz.func27,Tryz.ntmps27
 go_wp2_with (refine wpList_load_job rfl _ rfl w.heap.size rfl cs HX.out HL.out ?_;simp only [Act.put,List.setIfInBounds_toArray,List.set_cons_succ,List.set_cons_zero])
 refine (HKL.out _ HB.out).mono ?_
 rintro e w1 ⟨rfl,hb⟩
 have b1:=(HX.out.later (by rw [HL.out];decide) hb).cell 1 h1
 have R2:=HR.out.up hb
 have B1:=Lib.hid (up_trans HB.out hb)
 have p0:=R2.cell 0 rfl;have p1:=R2.cell 1 rfl;have p2:=R2.cell 2 rfl;have p3:=R2.cell 3 rfl;have p4:=R2.cell 4 rfl;have p5:=R2.cell 5 rfl;have p6:=R2.cell 6 rfl
 have pf:=R2.free
 clear hb
 have R3:=((((((R2.set 0 (.int .i64 0)).set 1 (.int .i64 0)).set 2 (.int .i64 0)).set 3 (.slice none 0 0)).set 4 (.int .i64 0)).set 5 (.int .i64 0)).set 6 (.slice none 0 0)
 have q0:=R3.cell 0 rfl;have q1:=R3.cell 1 rfl;have q2:=R3.cell 2 rfl;have q3:=R3.cell 3 rfl;have q4:=R3.cell 4 rfl;have q5:=R3.cell 5 rfl;have q6:=R3.cell 6 rfl
 have B3:=up_set (up_set (up_set (up_set (up_set (up_set (up_set B1.out (p:=⟨w.heap.size+1,0,none⟩) (by simp only;omega) (.int .i64 0)) (p:=⟨w.heap.size+1,1,none⟩) (by simp only;omega) (.int .i64 0)) (p:=⟨w.heap.size+1,2,none⟩) (by simp only;omega) (.int .i64 0)) (p:=⟨w.heap.size+1,3,none⟩) (by simp only;omega) (.slice none 0 0)) (p:=⟨w.heap.size+1,4,none⟩) (by simp only;omega) (.int .i64 0)) (p:=⟨w.heap.size+1,5,none⟩) (by simp only;omega) (.int .i64 0)) (p:=⟨w.heap.size+1,6,none⟩) (by simp only;omega) (.slice none 0 0)
 have HQ:=Lib.hid (And.intro q0 (And.intro q1 (And.intro q2 (And.intro q3 (And.intro q4 (And.intro q5 q6))))))
 have HB3:=Lib.hid B3
 clear R3 q0 q1 q2 q3 q4 q5 q6 B3 R2
 cases u
 ·go_wp2
  obtain ⟨q0,q1,q2,q3,q4,q5,q6⟩:=HQ.out
  exact bodyPost_ret (v:=.agg #[.int .i64 0,.int .i64 0,.int .i64 0,.slice none 0 0,.int .i64 0,.int .i64 0,.slice none 0 0]) (by simp [results,Tryz.results27,go_sem,q0,q1,q2,q3,q4,q5,q6]) rfl ⟨rfl,HB3.out⟩
 ·obtain rfl:v=false:=by simpa using h
  go_wp2_with fail
  refine (HKI.out _).mono ?_
  rintro e w2 ⟨rfl,rfl⟩
  go_wp2
  obtain ⟨q0,q1,q2,q3,q4,q5,q6⟩:=HQ.out
  exact bodyPost_ret (v:=.agg #[.int .i64 0,.int .i64 0,.int .i64 0,.slice none 0 0,.int .i64 0,.int .i64 0,.slice none 0 0]) (by simp [results,Tryz.results27,go_sem,q0,q1,q2,q3,q4,q5,q6]) rfl ⟨rfl,HB3.out⟩
set_option maxRecDepth 100000 in
set_option maxHeartbeats 1000000 in
theorem spPart_yes (cs:List Value) (N c r q o z rst m:Int) (a:Option Addr) (n cap:Nat) (E:Sc) (w:World) (h1:cs[1]?=some (.int .i64 N)) (h12:cs[12]?=some (.int .i64 c)) (h13:cs[13]?=some (.int .i64 r)) (h14:cs[14]?=some (.slice a n cap)) (hL:cs.length=33)
  (n1:1≤N) (n2:N≤100000) (q1:2≤q) (q2:q≤128) (ho:(N-1).tdiv q=o) (o1:0≤o) (o2:o<50000) (hz:o*q=z) (z1:0≤z) (z2:z≤100000) (hr:N-z=rst) (hm:o+1=m)
  (KL:∀ w1,Below w.heap.size w w1→Calls Tryz.prog 44 #[.agg cs.toArray] w1 fun e w'=>e=.returned (.bool true)∧Below w1.heap.size w1 w')
  (KI:∀ w1,Calls Tryz.prog 36 #[.int .i64 N,.int .i64 1,.int .i64 100000] w1 fun e w'=>e=.returned (.bool true)∧w1=w')
  (KT:∀ w1,Calls Tryz.prog 45 #[.agg #[.int .i64 c,.int .i64 r,.slice a n cap]] w1 fun e w'=>e=.returned (.int .i64 q)∧Below w1.heap.size w1 w')
  (KE:∀ w1,Below w.heap.size w w1→w.heap.size+2≤w1.heap.size→Calls Tryz.prog 46 #[.agg cs.toArray,.int .i64 rst] w1 fun e w'=>∃ a1 c1,e=.returned (.agg #[.int .i64 E.c,.int .i64 E.r,.slice a1 E.l.length c1])∧LiG (fun b=>b≠w.heap.size+1) w' a1 E.l∧Below w1.heap.size w1 w') :
  Calls Tryz.prog 27 #[.agg cs.toArray] w fun e w'=>∃ a1 c1,e=.returned (.agg #[.int .i64 m,.int .i64 c,.int .i64 r,.slice a n cap,.int .i64 E.c,.int .i64 E.r,.slice a1 E.l.length c1])∧InL w' a1 E.l∧Below w.heap.size w w':=by
 have X1:=(Bx.new w 29 cs)
 have U1:=up_alloc (Below.refl w.heap.size w) (.cells cs.toArray 29)
 have V1:=up_alloc (Below.refl _ (w.alloc (.cells cs.toArray 29))) (.cells #[.int .i64 0,.int .i64 0,.int .i64 0,.slice none 0 0,.int .i64 0,.int .i64 0,.slice none 0 0] 54)
 have HX:=Lib.hid (X1.later (by rw [hL];decide) V1)
 have HB:=Lib.hid (up_trans U1 V1)
 have R1:=Bx.new (w.alloc (.cells cs.toArray 29)) 54 [.int .i64 0,.int .i64 0,.int .i64 0,.slice none 0 0,.int .i64 0,.int .i64 0,.slice none 0 0]
 rw [World.size_alloc] at R1
 have HR:=Lib.hid R1
 have HL:=Lib.hid hL;have HKL:=Lib.hid KL;have HKI:=Lib.hid KI;have HKT:=Lib.hid KT;have HKE:=Lib.hid KE
 have H12:=Lib.hid h12;have H13:=Lib.hid h13;have H14:=Lib.hid h14;have H1:=Lib.hid h1
 have hq:¬ q=0:=by omega
 have hqb:(q==0)=false:=by simp;omega
 clear X1 U1 V1 R1 hL KL KI KT KE h12 h13 h14 h1
 go_enter Tryz.func27,Tryz.ntmps27
 go_wp2_with (refine wpList_load_job rfl _ rfl w.heap.size rfl cs HX.out HL.out ?_;simp only [Act.put,List.setIfInBounds_toArray,List.set_cons_succ,List.set_cons_zero])
 refine (HKL.out _ HB.out).mono ?_
 rintro e w1 ⟨rfl,hb⟩
 have X2:=HX.out.later (by rw [HL.out];decide) hb
 have b1:=X2.cell 1 H1.out
 have R2:=Lib.hid (HR.out.up hb)
 have B1:=Lib.hid (up_trans HB.out hb)
 clear hb
 go_wp2_with fail
 refine (HKI.out _).mono ?_
 rintro e w2 ⟨rfl,rfl⟩
 have b12:=X2.cell 12 H12.out;have b13:=X2.cell 13 H13.out;have b14:=X2.cell 14 H14.out
 have X2h:=Lib.hid X2
 clear X2
 go_wp2_with fail
 have j1:=fun x:Later w1=>x.cell b1
 have j12:=fun x:Later w1=>x.cell b12
 have j13:=fun x:Later w1=>x.cell b13
 have j14:=fun x:Later w1=>x.cell b14
 clear b1 b12 b13 b14
 refine later_start (w:=w1) ?_
 intro x
 refine wp_region_later (by kernel_rfl) (by kernel_rfl) ?_
 repeat (go_big_quiet_step ((go_at_call 45;with_reducible exact Later.call (HKT.out _))))
 refine wpQuiet_nil ?_
 rintro _ ⟨x2,rfl⟩
 have X3:=Lib.hid (X2h.out.later (by rw [HL.out];decide) x2.up)
 have R3:=Lib.hid (R2.out.up x2.up)
 have B3:=Lib.hid (up_trans B1.out x2.up)
 obtain ⟨w3,hw3⟩:∃ w3,x2.now=w3:=⟨_,rfl⟩
 rw [hw3] at X3 R3 B3 ⊢
 clear hw3 j1 j12 j13 j14 x2 x
 have b1:=X3.out.cell 1 H1.out;have b12:=X3.out.cell 12 H12.out;have b13:=X3.out.cell 13 H13.out;have b14:=X3.out.cell 14 H14.out
 have j1:=fun x:Held w.heap.size w3=>x.cell b1
 have j12:=fun x:Held w.heap.size w3=>x.cell b12
 have j13:=fun x:Held w.heap.size w3=>x.cell b13
 have j14:=fun x:Held w.heap.size w3=>x.cell b14
 have HRG:=Lib.hid (held_range X3.out)
 have hlow:=R3.out.lt
 clear b1 b12 b13 b14
 go_wp2_with fail
 refine wp_region_callsS (fun w'=>∃ u:Held w.heap.size w3,w'=u.now) [([0,1,2,3,4,5,6,7,8,9],10),([11,12],13),([14],15)] [] (by kernel_rfl) (by kernel_rfl) rfl (fun _ _ d _ _ h=>by cases d<;>exact h) (held_drew _ _) ?_
 refine walkC_take _ rfl (fun K0 hK0=>?_)
 simp only [List.map_cons,List.map_nil,List.getD_cons_zero,List.getD_cons_succ]
 repeat (first
  | (go_big_quiet_want;refine quiet_load_job _ rfl w.heap.size rfl cs HL.out HRG.out ?_;simp only [Act.put,List.setIfInBounds_toArray,List.set_cons_succ,List.set_cons_zero];go_big_quiet_on)
  | go_big_quiet_step (fail))
 refine wpQuiet_nil (hK0.out _ (fun K hK=>?_))
 go_simp
 refine (HKT.out _).mono ?_
 rintro e w4 ⟨rfl,hb⟩
 have C4:=Lib.hid (up_trans (up_drew (Below.refl _ w3)) hb)
 refine hK.out _ _ (held_up C4.out) ?_
 clear hK K hK0 K0 hb
 try simp only [List.setIfInBounds_toArray,List.set_cons_zero,List.set_cons_succ]
 refine walkC_take _ rfl (fun K0 hK0=>?_)
 simp only [List.map_cons,List.map_nil,List.getD_cons_zero,List.getD_cons_succ]
 repeat (go_big_quiet_step (fail))
 refine wpQuiet_nil (hK0.out _ (fun K hK=>?_))
 go_simp
 refine (HKE.out _ (up_trans B3.out C4.out) (by have:=C4.out.size;omega)).mono ?_
 rintro e w5 ⟨a1,c1,rfl,hE,hb⟩
 have C5:=Lib.hid (up_trans C4.out hb)
 have HE:=Lib.hid hE
 refine hK.out _ _ (held_up C5.out) ?_
 clear hK K hK0 K0 hb hE
 try simp only [List.setIfInBounds_toArray,List.set_cons_zero,List.set_cons_succ]
 refine walkC_take _ rfl (fun K0 hK0=>?_)
 simp only [List.map_cons,List.map_nil,List.getD_cons_zero,List.getD_cons_succ]
 repeat (go_big_quiet_step (fail))
 refine wpQuiet_nil (hK0.out _ (fun K hK=>?_))
 refine (if_pos (by kernel_rfl)).mpr ?_
 refine wp_store_mid 54 _ _ rfl (w.heap.size+1) 0 #[.int .i64 m,.int .i64 c,.int .i64 r,.slice a n cap,.int .i64 E.c,.int .i64 E.r,.slice a1 E.l.length c1] rfl rfl ?there zero_part (by simp;exact ⟨rfl,rfl,rfl,rfl,rfl,rfl,rfl⟩) ?_
 case there=>exact (R3.out.up C5.out).present
 have C6:=held_sets (B:=w.heap.size) C5.out (B':=w.heap.size+1) (by omega) 0 [.int .i64 m,.int .i64 c,.int .i64 r,.slice a n cap,.int .i64 E.c,.int .i64 E.r,.slice a1 E.l.length c1]
 refine hK.out _ _ C6 ?_
 clear hK K hK0 K0 C6
 try simp only [List.setIfInBounds_toArray,List.set_cons_zero,List.set_cons_succ]
 refine walkC_last (fun K0 hK0=>?_)
 simp only [List.map_nil]
 refine wpQuiet_nil (hK0.out _ ?_)
 clear hK0 K0
 have R6:=(R3.out.up C5.out).sets (ws:=[.int .i64 m,.int .i64 c,.int .i64 r,.slice a n cap,.int .i64 E.c,.int .i64 E.r,.slice a1 E.l.length c1]) rfl
 have B6:=below_setCells (B:=w.heap.size+1) (show w.heap.size≤w.heap.size+1 by omega) [.int .i64 m,.int .i64 c,.int .i64 r,.slice a n cap,.int .i64 E.c,.int .i64 E.r,.slice a1 E.l.length c1] 0 _ (up_trans B3.out C5.out)
 have E6:=(HE.out.keep (B:=w.heap.size+1) (fun h=>h rfl) (keep_sets _ (w.heap.size+1) 0 [.int .i64 m,.int .i64 c,.int .i64 r,.slice a n cap,.int .i64 E.c,.int .i64 E.r,.slice a1 E.l.length c1])).inL
 have HR6:=Lib.hid R6;have HB6:=Lib.hid B6;have HE6:=Lib.hid E6
 clear R6 B6 E6
 go_wp2
 exact bodyPost_ret (v:=.agg #[.int .i64 m,.int .i64 c,.int .i64 r,.slice a n cap,.int .i64 E.c,.int .i64 E.r,.slice a1 E.l.length c1]) (results_wide Tryz.results27 (w.heap.size+1) rfl _ _ HR6.out.range Tryz.underlying54 rfl zero_part) rfl ⟨a1,c1,rfl,HE6.out,HB6.out⟩
def partF (j:Jb):Sc:=if partB j=true then j.f else zeroSc
def partE (j:Jb):Sc:=if partB j=true then lastS j else zeroSc
theorem spPart_any (cs:List Value) (j:Jb) (w:World) (h:JobA w cs j) (hf:WfF j) (hg:GoodM w) :
  Calls Tryz.prog 27 #[.agg cs.toArray] w fun e w'=>∃ a1 c1 a2 c2,e=.returned (.agg #[.int .i64 (cntS j),.int .i64 (partF j).c,.int .i64 (partF j).r,.slice a1 (partF j).l.length c1,.int .i64 (partE j).c,.int .i64 (partE j).r,.slice a2 (partE j).l.length c2])
   ∧ InL w' a1 (partF j).l∧InL w' a2 (partE j).l∧Below w.heap.size w w':=by
 obtain ⟨a,c,a',c',h12,h13,h14,h15,hI,hT⟩:=h.cells
 have h1:cs[1]?=some (.int .i64 (j.n 0)):=h.num (k:=0) (by decide)
 have KL:=fun w1 (hb:Below w.heap.size w w1)=>spLast_any cs j w1 (h.up hb) hf (hg.below hb)
 have KI:=fun w1=>in_any (j.n 0) 1 100000 w1
 by_cases hp:partB j=true
 ·have hp2:=hp
  unfold partB at hp2
  rw [Bool.and_eq_true] at hp2
  obtain ⟨p1,p2,p3,-⟩:=part_facts hp
  obtain ⟨o1,o2,r1,r2,z2,z1⟩:=others_bounds p3.1 p3.2 p1.1
  simp only [hp2.1] at KL
  simp only [hp2.2] at KI
  have e1:cntS j=othersM (j.n 0) (panS j.f)+1:=by unfold cntS;rw [if_pos hp]
  have e2:partF j=j.f:=by unfold partF;rw [if_pos hp]
  have e3:partE j=lastS j:=by unfold partE;rw [if_pos hp]
  rw [e1,e2,e3]
  refine (spPart_yes cs (j.n 0) j.f.c j.f.r (2*panM j.f.c j.f.r) (othersM (j.n 0) (panS j.f)) _ (restM2 (j.n 0) (panS j.f)) _ a _ c (lastS j) w h1 h12 h13 h14 h.length p3.1 p3.2 (by unfold panS at p1;omega) (by unfold panS at p1;omega) rfl o1 o2 rfl z1 z2 rfl rfl KL KI (fun w1=>spTakes_any _ _ _ _ _ w1) (fun w1 hb hs=>?_)).mono ?_
  ·refine spEnd_any cs j _ w1 (h.up hb) (hg.below hb) (fun b=>b≠w.heap.size+1) (fun b hb2=>by omega) (fun a0 c0 h0=>?_)
   rw [h14] at h0
   injection h0 with h0
   injection h0 with h0 h0' h0''
   subst h0
   exact (hI.liG.up hb).mono fun b hb2=>by omega
  ·rintro e w' ⟨a1,c1,rfl,hE,hb⟩
   exact ⟨a,c,a1,c1,rfl,hI.up hb,hE,hb⟩
 ·have hp2:(lastM j&&(decide (1≤j.n 0)&&decide (j.n 0≤100000)))=false:=by
   rw [←Bool.not_eq_true]
   exact hp
  have e1:cntS j=0:=by unfold cntS;rw [if_neg hp]
  have e2:partF j=zeroSc:=by unfold partF;rw [if_neg hp]
  have e3:partE j=zeroSc:=by unfold partE;rw [if_neg hp]
  rw [e1,e2,e3]
  exact (spPart_no cs (j.n 0) _ _ w h1 h.length hp2 KL KI).mono fun e w' ⟨he,hb⟩=>⟨none,0,none,0,he,.inl rfl,.inl rfl,hb⟩
theorem run_append_zero {P:Program} {w:World} (t ty e:TypeId) (i:TypeInfo) (ht:P.underlying t=some (.slice e)) (hi:P.info? e=some i) (ad:Option Addr) (c:Nat) :
  (Builtin.append_ #[t,t] ty #[.slice none 0 0,.slice ad 0 c]).run P w=.ok (.slice none 0 0) w:=by
 cases ad<;>simp [Builtin.append_,run_underlying ht,sizeOf,typeInfo,hi,Builtin.lenOf,Builtin.firstCells,loadCells,loadCellsFrom]
theorem wpList_append_zero {P:Program} {w:World} {ops:Array Oper} {rest:List Oper} {o:Oper} {a:Act} {Q:Exit→Act→World→Prop} (hgd:o.guard=none) (s x:Operand) (t:TypeId)
  (ho:o.op=.call { callee:=.builtin .append,args:=#[s,x],argTypes:=#[t,t] }) (e:TypeId) (i:TypeInfo) (ht:P.underlying t=some (.slice e)) (hi:P.info? e=some i)
  (hs:a.eval s=.slice none 0 0) (ad:Option Addr) (c:Nat) (hx:a.eval x=.slice ad 0 c)
  (h:wpList P ops Q rest (a.put o.dst (.slice none 0 0)) w):wpList P ops Q (o :: rest) a w:=by
 refine wpList_plain hgd fun K hK=>?_
 have hrun:=run_append_zero (P:=P) (w:=w) t o.type e i ht hi ad c
 unfold Oper.wp
 simp [execOp,ho,resolve,invoke,builtin,hs,hx,hrun,Result.andThen]
 exact hK _ _ h
theorem wpList_append_steps {u:World} {ops:Array Oper} {rest:List Oper} {o:Oper} {a:Act} {Q:Exit→Act→World→Prop} (hgd:o.guard=none) (s x:Operand)
  (ho:o.op=.call { callee:=.builtin .append,args:=#[s,x],argTypes:=#[24,24] })
  (hs:a.eval s=.slice none 0 0) (l:List Sp) (n c:Nat) (hn:l.length=n) (ad:Option Addr) (hx:a.eval x=.slice ad n c) (hl:n≤1000000) (hI:InL u ad l)
  (h:∀ a2 c2 w',InF u.heap.size w' a2 l→Below u.heap.size u w'→wpList Tryz.prog ops Q rest (a.put o.dst (.slice a2 n c2)) w'):wpList Tryz.prog ops Q (o :: rest) a u:=by
 obtain ⟨i0,hi0,hz0,hz1,hz2⟩:=info_parts Tryz.infoStep
 subst hn
 by_cases h0:l.length=0
 ·rw [h0] at hx
  refine wpList_append_zero hgd s x 24 ho 58 i0 Tryz.underlying24 hi0 hs ad c hx ?_
  have:=h none 0 u (.inl (List.eq_nil_of_length_eq_zero h0)) (Below.refl _ _)
  rw [h0] at this
  exact this
 ·rcases hI with rfl | ⟨b,off,rfl,hI⟩
  ·exact absurd rfl h0
  refine wpList_append_lies _ hgd s x 24 ho u.heap.size 58 i0 _ 3 24 Tryz.underlying24 hi0 hz0 hz1 hz2 rfl (by omega) _ 0 [] hs (World.ownsRow_nil _ _ _ _) ⟨b,off,none⟩ l.length c (flatS l) hx (flatS_length l) ?_ (flatS_one l) (by omega) (by unfold maxLen;omega) (by omega) (Nat.le_refl _) _ rfl ?_
  ·intro j v hj
   rw [Addr.add_mid]
   exact flatS_read l b off u hI j v hj
  ·intro g cap w1 hown hgrow hat hlt
   simp only [Nat.zero_add,List.nil_append] at hown ⊢
   have hr:rowP w1 u.heap.size (.slice (some ⟨g,0,none⟩) l.length cap) l:=hown
   exact h _ cap w1 hr.inF (Below.grown (Below.refl _ _) hgrow (Nat.le_refl _) (fun k hk=>by simp [Value.ownBlock] at hk))
set_option maxHeartbeats 1000000 in
theorem spAt_core (n i fc fr ec er:Int) (l:List Sp) (fn en m:Nat) (fa ea:Option Addr) (fk ek:Nat) (u:Bool) (w:World) (n1:0≤n) (n2:n≤100000) (hu:(i==n-1)=u) (hl:l.length=m) (hm:m≤1000000) (he:(if u=true then en else fn)=m) (hI:InL w (if u=true then ea else fa) l) :
  Calls Tryz.prog 84 #[.agg #[.int .i64 n,.int .i64 fc,.int .i64 fr,.slice fa fn fk,.int .i64 ec,.int .i64 er,.slice ea en ek],.int .i64 i] w fun e w'=>∃ a c,e=.returned (.agg #[.int .i64 (if u=true then ec else fc),.int .i64 (if u=true then er else fr),.slice a m c])∧InF w.heap.size w' a l∧Below w.heap.size w w':=by
 have X1:=Bx.new w 54 [.int .i64 n,.int .i64 fc,.int .i64 fr,.slice fa fn fk,.int .i64 ec,.int .i64 er,.slice ea en ek]
 have U1:=up_alloc (Below.refl w.heap.size w) (.cells #[.int .i64 n,.int .i64 fc,.int .i64 fr,.slice fa fn fk,.int .i64 ec,.int .i64 er,.slice ea en ek] 54)
 obtain ⟨P,hP⟩:∃ P,Obj.cells #[.int .i64 n,.int .i64 fc,.int .i64 fr,.slice fa fn fk,.int .i64 ec,.int .i64 er,.slice ea en ek] 54=P:=⟨_,rfl⟩
 have X2:=X1.alloc (.cells #[.int .i64 0,.int .i64 0,.slice none 0 0] 26)
 have X3:=X2.alloc (.cells #[.int .i64 fc,.int .i64 fr,.slice fa fn fk] 26)
 have b1:=X2.cell 1 rfl;have b2:=X2.cell 2 rfl;have b3:=X2.cell 3 rfl
 have d0:=X3.cell 0 rfl;have d4:=X3.cell 4 rfl;have d5:=X3.cell 5 rfl;have d6:=X3.cell 6 rfl
 have HL:=Lib.hid hl;have HI:=Lib.hid hI;have HU1:=Lib.hid U1
 clear X1 X2 X3 hl hI hP U1
 rename Hid (Below w.heap.size w _)=>U1
 cases u
 ·simp only [Bool.false_eq_true,if_false] at he HI ⊢
  subst he
  go_enter Tryz.func84,Tryz.ntmps84
  go_wp2_with (at_builtin;refine wpList_append_steps rfl _ _ rfl rfl l _ _ HL.out _ rfl hm ?inl ?_)
  case inl=>exact ((HI.out.up U1.out).up (up_alloc (Below.refl _ _) (.cells #[.int .i64 0,.int .i64 0,.slice none 0 0] 26))).up (up_alloc (Below.refl _ _) (.cells #[.int .i64 fc,.int .i64 fr,.slice fa fn fk] 26))
  intro a2 c2 w4 hF hb0
  have hb:Below (((w.alloc (.cells #[.int .i64 n,.int .i64 fc,.int .i64 fr,.slice fa fn fk,.int .i64 ec,.int .i64 er,.slice ea en ek] 54)).alloc (.cells #[.int .i64 0,.int .i64 0,.slice none 0 0] 26)).alloc (.cells #[.int .i64 fc,.int .i64 fr,.slice fa fn fk] 26)).heap.size (((w.alloc (.cells #[.int .i64 n,.int .i64 fc,.int .i64 fr,.slice fa fn fk,.int .i64 ec,.int .i64 er,.slice ea en ek] 54)).alloc (.cells #[.int .i64 0,.int .i64 0,.slice none 0 0] 26)).alloc (.cells #[.int .i64 fc,.int .i64 fr,.slice fa fn fk] 26)) w4:=by simp only [World.size_alloc];exact hb0
  have S:=(Bx.new ((w.alloc (.cells #[.int .i64 n,.int .i64 fc,.int .i64 fr,.slice fa fn fk,.int .i64 ec,.int .i64 er,.slice ea en ek] 54)).alloc (.cells #[.int .i64 0,.int .i64 0,.slice none 0 0] 26)) 26 [.int .i64 fc,.int .i64 fr,.slice fa fn fk]).up hb
  have R:=((Bx.new (w.alloc (.cells #[.int .i64 n,.int .i64 fc,.int .i64 fr,.slice fa fn fk,.int .i64 ec,.int .i64 er,.slice ea en ek] 54)) 26 [.int .i64 0,.int .i64 0,.slice none 0 0]).alloc (.cells #[.int .i64 fc,.int .i64 fr,.slice fa fn fk] 26)).up hb
  have B4:=Lib.hid (up_trans (up_trans U1.out (up_alloc (up_alloc (Below.refl _ _) (.cells #[.int .i64 0,.int .i64 0,.slice none 0 0] 26)) (.cells #[.int .i64 fc,.int .i64 fr,.slice fa fn fk] 26))) hb)
  simp only [World.size_alloc] at S R hF
  have S5:=S.set 2 (.slice a2 fn c2)
  have R5:=R.far (p:=⟨w.heap.size+1+1,2,none⟩) (by simp only;omega) (.slice a2 fn c2)
  have R6:=R5.set3 (.int .i64 fc) (.int .i64 fr) (.slice a2 fn c2)
  have sf:=S.free
  have s0:=S5.cell 0 rfl;have s1:=S5.cell 1 rfl;have s2:=S5.cell 2 rfl
  have t0:=S.cell 0 rfl;have t1:=S.cell 1 rfl;have t2:=S.cell 2 rfl
  have r0:=R5.cell 0 rfl;have r1:=R5.cell 1 rfl;have r2:=R5.cell 2 rfl;have rf:=R5.free
  have p0:=Lib.hid (R6.cell 0 rfl);have p1:=Lib.hid (R6.cell 1 rfl);have p2:=Lib.hid (R6.cell 2 rfl)
  have HF:=Lib.hid hF
  clear S R S5 R5 R6 hF hb hb0
  go_wp2
  have q0:=p0.out;have q1:=p1.out;have q2:=p2.out
  refine bodyPost_ret (v:=.agg #[.int .i64 fc,.int .i64 fr,.slice a2 fn c2]) (by simp [results,Tryz.results84,go_sem,q0,q1,q2]) rfl ⟨a2,c2,rfl,?_,?_⟩
  ·have F4:=HF.out
   refine InF.mono (base:=w.heap.size+1+1+1) ?_ (by omega)
   exact (((F4.set (p:=⟨w.heap.size+1+1,2,none⟩) (by simp only;omega) _).set (p:=⟨w.heap.size+1,0,none⟩) (by simp only;omega) _).set (p:=⟨w.heap.size+1,1,none⟩) (by simp only;omega) _).set (p:=⟨w.heap.size+1,2,none⟩) (by simp only;omega) _
  ·exact up_set (up_set (up_set (up_set B4.out (by simp only;omega) _) (by simp only;omega) _) (by simp only;omega) _) (by simp only;omega) _
 ·simp only [if_true] at he HI ⊢
  subst he
  go_enter Tryz.func84,Tryz.ntmps84
  go_wp2_with (at_builtin;refine wpList_append_steps rfl _ _ rfl rfl l _ _ HL.out _ rfl hm ?inl ?_)
  case inl=>exact ((HI.out.up U1.out).up (up_alloc (Below.refl _ _) (.cells #[.int .i64 0,.int .i64 0,.slice none 0 0] 26))).up (up_alloc (Below.refl _ _) (.cells #[.int .i64 ec,.int .i64 er,.slice ea en ek] 26))
  intro a2 c2 w4 hF hb0
  have hb:Below (((w.alloc (.cells #[.int .i64 n,.int .i64 fc,.int .i64 fr,.slice fa fn fk,.int .i64 ec,.int .i64 er,.slice ea en ek] 54)).alloc (.cells #[.int .i64 0,.int .i64 0,.slice none 0 0] 26)).alloc (.cells #[.int .i64 ec,.int .i64 er,.slice ea en ek] 26)).heap.size (((w.alloc (.cells #[.int .i64 n,.int .i64 fc,.int .i64 fr,.slice fa fn fk,.int .i64 ec,.int .i64 er,.slice ea en ek] 54)).alloc (.cells #[.int .i64 0,.int .i64 0,.slice none 0 0] 26)).alloc (.cells #[.int .i64 ec,.int .i64 er,.slice ea en ek] 26)) w4:=by simp only [World.size_alloc];exact hb0
  have S:=(Bx.new ((w.alloc (.cells #[.int .i64 n,.int .i64 fc,.int .i64 fr,.slice fa fn fk,.int .i64 ec,.int .i64 er,.slice ea en ek] 54)).alloc (.cells #[.int .i64 0,.int .i64 0,.slice none 0 0] 26)) 26 [.int .i64 ec,.int .i64 er,.slice ea en ek]).up hb
  have R:=((Bx.new (w.alloc (.cells #[.int .i64 n,.int .i64 fc,.int .i64 fr,.slice fa fn fk,.int .i64 ec,.int .i64 er,.slice ea en ek] 54)) 26 [.int .i64 0,.int .i64 0,.slice none 0 0]).alloc (.cells #[.int .i64 ec,.int .i64 er,.slice ea en ek] 26)).up hb
  have B4:=Lib.hid (up_trans (up_trans U1.out (up_alloc (up_alloc (Below.refl _ _) (.cells #[.int .i64 0,.int .i64 0,.slice none 0 0] 26)) (.cells #[.int .i64 ec,.int .i64 er,.slice ea en ek] 26))) hb)
  simp only [World.size_alloc] at S R hF
  have S5:=S.set 2 (.slice a2 en c2)
  have R5:=R.far (p:=⟨w.heap.size+1+1,2,none⟩) (by simp only;omega) (.slice a2 en c2)
  have R6:=R5.set3 (.int .i64 ec) (.int .i64 er) (.slice a2 en c2)
  have sf:=S.free
  have s0:=S5.cell 0 rfl;have s1:=S5.cell 1 rfl;have s2:=S5.cell 2 rfl
  have t0:=S.cell 0 rfl;have t1:=S.cell 1 rfl;have t2:=S.cell 2 rfl
  have r0:=R5.cell 0 rfl;have r1:=R5.cell 1 rfl;have r2:=R5.cell 2 rfl;have rf:=R5.free
  have p0:=Lib.hid (R6.cell 0 rfl);have p1:=Lib.hid (R6.cell 1 rfl);have p2:=Lib.hid (R6.cell 2 rfl)
  have HF:=Lib.hid hF
  clear S R S5 R5 R6 hF hb hb0
  go_wp2
  have q0:=p0.out;have q1:=p1.out;have q2:=p2.out
  refine bodyPost_ret (v:=.agg #[.int .i64 ec,.int .i64 er,.slice a2 en c2]) (by simp [results,Tryz.results84,go_sem,q0,q1,q2]) rfl ⟨a2,c2,rfl,?_,?_⟩
  ·have F4:=HF.out
   refine InF.mono (base:=w.heap.size+1+1+1) ?_ (by omega)
   exact (((F4.set (p:=⟨w.heap.size+1+1,2,none⟩) (by simp only;omega) _).set (p:=⟨w.heap.size+1,0,none⟩) (by simp only;omega) _).set (p:=⟨w.heap.size+1,1,none⟩) (by simp only;omega) _).set (p:=⟨w.heap.size+1,2,none⟩) (by simp only;omega) _
  ·exact up_set (up_set (up_set (up_set B4.out (by simp only;omega) _) (by simp only;omega) _) (by simp only;omega) _) (by simp only;omega) _
theorem spLeaves_core (n fc fr ec er k p pe z s:Int) (fa ea:Option Addr) (fn fk en ek:Nat) (w:World) (n1:0≤n) (n2:n≤100000) (hk:n-1=k) (hz:k*p=z) (hs:z+pe=s) (z1:-1000000000≤z) (z2:z≤1000000000) (p1:0≤pe) (p2:pe≤4096)
  (KF:∀ w1,Calls Tryz.prog 47 #[.agg #[.int .i64 fc,.int .i64 fr,.slice fa fn fk]] w1 fun e w'=>e=.returned (.int .i64 p)∧Below w1.heap.size w1 w')
  (KE:∀ w1,Calls Tryz.prog 47 #[.agg #[.int .i64 ec,.int .i64 er,.slice ea en ek]] w1 fun e w'=>e=.returned (.int .i64 pe)∧Below w1.heap.size w1 w') :
  Calls Tryz.prog 28 #[.agg #[.int .i64 n,.int .i64 fc,.int .i64 fr,.slice fa fn fk,.int .i64 ec,.int .i64 er,.slice ea en ek]] w fun e w'=>e=.returned (.int .i64 s)∧Below w.heap.size w w':=by
 have X:=Bx.new w 54 [.int .i64 n,.int .i64 fc,.int .i64 fr,.slice fa fn fk,.int .i64 ec,.int .i64 er,.slice ea en ek]
 have B:=Lib.hid (up_alloc (Below.refl w.heap.size w) (.cells #[.int .i64 n,.int .i64 fc,.int .i64 fr,.slice fa fn fk,.int .i64 ec,.int .i64 er,.slice ea en ek] 54))
 have HF:=Lib.hid KF;have HE:=Lib.hid KE
 clear KF KE
 go_enter Tryz.func28,Tryz.ntmps28
 go_wp2_with fail
 obtain ⟨w1,hw1⟩:∃ w1,w.alloc (.cells #[.int .i64 n,.int .i64 fc,.int .i64 fr,.slice fa fn fk,.int .i64 ec,.int .i64 er,.slice ea en ek] 54)=w1:=⟨_,rfl⟩
 rw [hw1] at X B ⊢
 clear hw1
 have j0:=fun x:Later w1=>x.cell (X.cell 0 rfl)
 have j1:=fun x:Later w1=>x.cell (X.cell 1 rfl)
 have j2:=fun x:Later w1=>x.cell (X.cell 2 rfl)
 have j3:=fun x:Later w1=>x.cell (X.cell 3 rfl)
 have j4:=fun x:Later w1=>x.cell (X.cell 4 rfl)
 have j5:=fun x:Later w1=>x.cell (X.cell 5 rfl)
 have j6:=fun x:Later w1=>x.cell (X.cell 6 rfl)
 clear X
 refine later_start (w:=w1) ?_
 intro x
 refine wp_region_later (by kernel_rfl) (by kernel_rfl) ?_
 repeat (go_big_quiet_step ((go_at_call 47;first | with_reducible exact Later.call (HF.out _) | with_reducible exact Later.call (HE.out _))))
 refine wpQuiet_nil ?_
 rintro _ ⟨x2,rfl⟩
 have BB:=Lib.hid (up_trans B.out x2.up)
 clear j0 j1 j2 j3 j4 j5 j6
 go_wp2
 go_ret
 exact ⟨rfl,BB.out⟩
theorem cnt_bounds (j:Jb):0≤cntS j∧cntS j≤50000:=by
 have h:=of_length j
 have h2:=of_small j
 omega
theorem part_leaves (j:Jb):(cntS j-1)*panM (partF j).c (partF j).r+panM (partE j).c (partE j).r=leavesS j∧(-1000000000≤(cntS j-1)*panM (partF j).c (partF j).r∧(cntS j-1)*panM (partF j).c (partF j).r≤1000000000):=by
 unfold cntS partF partE leavesS
 by_cases h:partB j=true
 ·simp only [if_pos h]
  obtain ⟨p1,p2,p3,-⟩:=part_facts h
  have hb:=others_bounds p3.1 p3.2 p1.1
  rw [Int.add_sub_cancel]
  refine ⟨rfl,?_⟩
  have e:othersM (j.n 0) (panS j.f)*(2*panS j.f)=2*(othersM (j.n 0) (panS j.f)*panS j.f):=by rw [←Int.mul_assoc,Int.mul_comm _ 2,Int.mul_assoc]
  rw [e] at hb
  show -1000000000≤othersM (j.n 0) (panS j.f)*panS j.f∧othersM (j.n 0) (panS j.f)*panS j.f≤1000000000
  omega
 ·simp only [if_neg h]
  decide
theorem leaves_bounds (j:Jb):0≤leavesS j∧leavesS j≤1000000:=by
 unfold leavesS
 split
 next h =>
  obtain ⟨p1,p2,p3,p4,p5,p6,p7,p8⟩:=part_facts h
  have hb:=others_bounds p3.1 p3.2 p1.1
  have e:othersM (j.n 0) (panS j.f)*(2*panS j.f)=2*(othersM (j.n 0) (panS j.f)*panS j.f):=by rw [←Int.mul_assoc,Int.mul_comm _ 2,Int.mul_assoc]
  rw [e] at hb
  omega
 next=>omega
theorem spLeavesP_any (j:Jb) (a1 a2:Option Addr) (c1 c2:Nat) (w:World):Calls Tryz.prog 28 #[.agg #[.int .i64 (cntS j),.int .i64 (partF j).c,.int .i64 (partF j).r,.slice a1 (partF j).l.length c1,.int .i64 (partE j).c,.int .i64 (partE j).r,.slice a2 (partE j).l.length c2]] w fun e w'=>e=.returned (.int .i64 (leavesS j))∧Below w.heap.size w w':=by
 obtain ⟨h1,h2,h3⟩:=part_leaves j
 have hc:=cnt_bounds j
 have hp:=pan_ge (partE j)
 exact spLeaves_core _ _ _ _ _ _ _ _ _ _ a1 a2 _ c1 _ c2 w hc.1 (by omega) rfl rfl h1 h2 h3 hp.1 hp.2 (fun w1=>schPanels_any _ _ _ _ _ w1) (fun w1=>schPanels_any _ _ _ _ _ w1)
set_option maxRecDepth 100000 in
theorem spCount_any (cs:List Value) (j:Jb) (w:World) (h:JobA w cs j) (hf:WfF j) (hg:GoodM w) :
  Calls Tryz.prog 69 #[.agg cs.toArray] w fun e w'=>e=.returned (.int .i64 (cntS j))∧Below w.heap.size w w':=by
 have HX:=Lib.hid (Bx.new w 29 cs)
 have HB:=Lib.hid (up_alloc (Below.refl w.heap.size w) (.cells cs.toArray 29))
 have HL:=Lib.hid h.length
 have HP:=Lib.hid (spPart_any cs j _ (h.up HB.out) hf (hg.below HB.out))
 clear h hf hg
 generalize cntS j=n at *
 generalize partF j=f at *
 generalize partE j=g at *
 go_enter Tryz.func69,Tryz.ntmps69
 go_wp2_with (refine wpList_load_job rfl _ rfl w.heap.size rfl cs HX.out HL.out ?_;simp only [Act.put,List.setIfInBounds_toArray,List.set_cons_succ,List.set_cons_zero])
 refine HP.out.mono ?_
 rintro e w1 ⟨a1,c1,a2,c2,rfl,-,-,hb⟩
 have B1:=Lib.hid (up_trans HB.out hb)
 clear hb
 have q:=fun w=>(show (Instr.field 54 (.agg #[.int .i64 n,.int .i64 f.c,.int .i64 f.r,.slice a1 f.l.length c1,.int .i64 g.c,.int .i64 g.r,.slice a2 g.l.length c2]) 0).run Tryz.prog w=.ok (.int .i64 n) w from by kernel_rfl)
 go_wp2
 go_ret
 exact ⟨rfl,B1.out⟩
theorem spLeaves_any (cs:List Value) (j:Jb) (w:World) (h:JobA w cs j) (hf:WfF j) (hg:GoodM w) :
  Calls Tryz.prog 14 #[.agg cs.toArray] w fun e w'=>e=.returned (.int .i64 (leavesS j))∧Below w.heap.size w w':=by
 have HX:=Lib.hid (Bx.new w 29 cs)
 have HB:=Lib.hid (up_alloc (Below.refl w.heap.size w) (.cells cs.toArray 29))
 have HL:=Lib.hid h.length
 have HP:=Lib.hid (spPart_any cs j _ (h.up HB.out) hf (hg.below HB.out))
 have HV:=Lib.hid (fun a1 a2 c1 c2 w=>spLeavesP_any j a1 a2 c1 c2 w)
 clear h hf hg
 generalize cntS j=n at *
 generalize partF j=f at *
 generalize partE j=g at *
 generalize leavesS j=v at *
 go_enter Tryz.func14,Tryz.ntmps14
 go_wp2_with (refine wpList_load_job rfl _ rfl w.heap.size rfl cs HX.out HL.out ?_;simp only [Act.put,List.setIfInBounds_toArray,List.set_cons_succ,List.set_cons_zero])
 refine HP.out.mono ?_
 rintro e w1 ⟨a1,c1,a2,c2,rfl,-,-,hb⟩
 have B1:=Lib.hid (up_trans HB.out hb)
 clear hb
 go_wp2_with fail
 refine (HV.out _ _ _ _ _).mono ?_
 rintro e w2 ⟨rfl,hb⟩
 have B2:=Lib.hid (up_trans B1.out hb)
 clear hb
 go_wp2
 go_ret
 exact ⟨rfl,B2.out⟩
end Go.Proofs.YtbbjileignefbaaGreatDoor
