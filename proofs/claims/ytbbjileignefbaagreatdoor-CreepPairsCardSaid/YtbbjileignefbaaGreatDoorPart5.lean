/- Part 5 of the texts that the proofs of this seat share: GridPlaces, SheetSeq, SheetPart, RangeSmall, UnfoldDecks, SheetMirror, SheetMath. -/
import Derived.IntWalk
import Derived.RangeFuncNested
import Derived.RangeFuncBound
import Derived.RangeFuncCalls
import Derived.RangeFuncLeaves
import Derived.Shelf.Abstract
import Derived.Shelf.RegionOpen
import Derived.WalkKit
import Derived.OwnWalkIn
import Derived.TacticsInMore
import Derived.LoopNIn
import Derived.LoopIn
import Derived.Maps.AppendAt
import Derived.Lib.SliceRun
import Derived.Deep.RegionHeld3
import Derived.Test.YtbbjileignefbaaGreatDoorPart4
set_option linter.unusedVariables false
namespace Go.Proofs.YtbbjileignefbaaGreatDoor
theorem td (a b c:Int) (ha:0≤a) (hb:0≤b) (hbc:b<c):(a*c+b).tdiv c=a∧(a*c+b).tmod c=b:=by
 have h0:0≤a*c:=Int.mul_nonneg ha (by omega)
 rw [Int.tdiv_eq_ediv_of_nonneg (by omega),Int.tmod_eq_emod_of_nonneg (by omega),Int.add_comm]
 refine ⟨?_,?_⟩
 ·rw [Int.add_mul_ediv_right _ _ (by omega),Int.ediv_eq_zero_of_lt hb hbc]
  omega
 ·rw [Int.add_mul_emod_self_right,Int.emod_eq_of_lt hb hbc]
theorem fold_sets {α:Type} (d:α) (l:List α) (n m:Nat) (f:List α→Nat→List α) (t:Nat→Option Nat) (s:Nat→Nat)
  (hf:∀ L k,f L k=match t k with
   | none=>L
   | some j=>L.set j (l[k]?.getD d))
  (ht:∀ k j,k<n→j<m→(t k=some j↔s j=k)) (hs:∀ j,j<m→s j<n) :
  (List.range n).foldl f (List.replicate m d)=(List.range m).map fun j=>l[s j]?.getD d:=by
 have key:∀ k,k≤n→((List.range k).foldl f (List.replicate m d)).length=m∧∀ j,j<m→((List.range k).foldl f (List.replicate m d))[j]?=some (if s j<k then l[s j]?.getD d else d):=by
  intro k
  induction k with
  | zero=>intro _;exact ⟨by simp,fun j hj=>by simp [hj]⟩
  | succ k ih =>
   intro hk
   obtain ⟨h1,h2⟩:=ih (by omega)
   rw [List.range_succ,List.foldl_append]
   generalize (List.range k).foldl f (List.replicate m d)=L at *
   simp only [List.foldl_cons,List.foldl_nil,hf]
   cases e:t k with
   | none =>
    refine ⟨h1,fun j hj=>?_⟩
    rw [h2 j hj]
    have:s j≠k:=fun h=>by rw [(ht k j (by omega) hj).2 h] at e;cases e
    by_cases h:s j<k
    ·rw [if_pos h,if_pos (by omega)]
    ·rw [if_neg h,if_neg (by omega)]
   | some i =>
    refine ⟨by rw [List.length_set];exact h1,fun j hj=>?_⟩
    show (L.set i _)[j]?=_
    rw [List.getElem?_set]
    by_cases h:i=j
    ·subst h
     have:s i=k:=(ht k i (by omega) hj).1 e
     rw [if_pos rfl,if_pos (by omega),this,if_pos (by omega)]
    ·rw [if_neg h,h2 j hj]
     have:s j≠k:=fun h'=>by rw [(ht k j (by omega) hj).2 h'] at e;injection e;omega
     by_cases h:s j<k
     ·rw [if_pos h,if_pos (by omega)]
     ·rw [if_neg h,if_neg (by omega)]
 obtain ⟨h1,h2⟩:=key n (Nat.le_refl _)
 apply List.ext_getElem?
 intro j
 by_cases hj:j<m
 ·rw [h2 j hj,if_pos (hs j hj)]
  simp [hj]
 ·rw [List.getElem?_eq_none (by omega),List.getElem?_eq_none (by simp;omega)]
theorem split_place (k:Nat) (c r:Int) (hc:1≤c) (hk:(k:Int)<c*r):∃ x y:Int,(k:Int).tmod c=x∧(k:Int).tdiv c=y∧0≤x∧x<c∧0≤y∧y<r∧y*c+x=k:=by
 have h1:=Int.mul_tdiv_add_tmod (k:Int) c
 have h2:0≤(k:Int).tmod c:=Int.tmod_nonneg _ (by omega)
 have h3:(k:Int).tmod c<c:=Int.tmod_lt_of_pos _ (by omega)
 have h4:0≤(k:Int).tdiv c:=Int.tdiv_nonneg (by omega) (by omega)
 refine ⟨_,_,rfl,rfl,h2,h3,h4,?_,by rw [Int.mul_comm];exact h1⟩
 generalize (k:Int).tmod c=m at *
 generalize (k:Int).tdiv c=d at *
 have:c*d<c*r:=by omega
 exact Int.lt_of_mul_lt_mul_left this (by omega)
theorem place_lt {c r x y:Int} (hc:1≤c) (hx:0≤x) (hx2:x<c) (hy:0≤y) (hy2:y<r):0≤y*c+x∧y*c+x<c*r:=by
 have a:0≤y*c:=Int.mul_nonneg hy (by omega)
 have b:(y+1)*c≤r*c:=Int.mul_le_mul_of_nonneg_right (by omega) (by omega)
 rw [Int.add_mul,Int.one_mul] at b
 rw [Int.mul_comm c r]
 omega
def srcP (c col row pc:Int) (k:Nat):Int:=(row+(k:Int).tdiv pc)*c+col+(k:Int).tmod pc
theorem srcP_lt {c r col row pc pr:Int} (hc:1≤c) (h0:0≤col) (h1:col+pc≤c) (h2:0≤row) (h3:row+pr≤r) (hp:1≤pc) (k:Nat) (hk:(k:Int)<pc*pr):0≤srcP c col row pc k∧srcP c col row pc k<c*r:=by
 obtain ⟨x,y,e1,e2,b0,b1,b2,b3,b4⟩:=split_place k pc pr hp hk
 unfold srcP
 rw [e1,e2,Int.add_assoc]
 exact place_lt hc (by omega) (by omega) (by omega) (by omega)
def srcM (up:Bool) (c r:Int) (k:Nat):Int:=if up=true then (k:Int).tdiv c*c+(c-1-(k:Int).tmod c) else (r-1-(k:Int).tdiv c)*c+(k:Int).tmod c
theorem srcM_lt (up:Bool) {c r:Int} (hc:1≤c) (k:Nat) (hk:(k:Int)<c*r):0≤srcM up c r k∧srcM up c r k<c*r:=by
 obtain ⟨x,y,e1,e2,b0,b1,b2,b3,b4⟩:=split_place k c r hc hk
 unfold srcM
 rw [e1,e2]
 split
 ·exact place_lt hc (by omega) (by omega) (by omega) (by omega)
 ·exact place_lt hc (by omega) (by omega) (by omega) (by omega)
theorem srcM_twice (up:Bool) {c r:Int} (hc:1≤c) (k:Nat) (hk:(k:Int)<c*r):(srcM up c r (srcM up c r k).toNat).toNat=k:=by
 obtain ⟨x,y,e1,e2,b0,b1,b2,b3,b4⟩:=split_place k c r hc hk
 have hl:=srcM_lt up hc k hk
 have hcast:((srcM up c r k).toNat:Int)=srcM up c r k:=by omega
 cases up
 ·have e:srcM false c r k=(r-1-y)*c+x:=by simp [srcM,e1,e2]
  rw [e] at hcast
  obtain ⟨t1,t2⟩:=td (r-1-y) x c (by omega) b0 b1
  have:srcM false c r (srcM false c r k).toNat=k:=by
   rw [e]
   simp only [srcM,hcast,t1,t2]
   rw [←b4]
   simp
   congr 1
   omega
  omega
 ·have e:srcM true c r k=y*c+(c-1-x):=by simp [srcM,e1,e2]
  rw [e] at hcast
  obtain ⟨t1,t2⟩:=td y (c-1-x) c b2 (by omega) (by omega)
  have:srcM true c r (srcM true c r k).toNat=k:=by
   rw [e]
   simp only [srcM,hcast,t1,t2]
   rw [←b4]
   simp
   omega
  omega
abbrev Ix (m:Nat):={ k:Nat // k<m }
def ixs (m k:Nat):List (Ix m):=(List.range k).filterMap fun i=>if h:i<m then some ⟨i,h⟩ else none
theorem ixs_succ {m k:Nat} (h:k<m):ixs m (k+1)=ixs m k++[⟨k,h⟩]:=by simp [ixs,List.range_succ,h]
theorem ixs_length {m:Nat}:∀ k,k≤m→(ixs m k).length=k
 | 0,_=>rfl
 | k+1,h=>by rw [ixs_succ (by omega),List.length_append,ixs_length k (by omega)];rfl
theorem ixs_at {m:Nat}:∀ (k:Nat),k≤m→∀ j,j<k→∃ h:j<m,(ixs m k)[j]?=some ⟨j,h⟩
 | 0,_,j,hj=>absurd hj (Nat.not_lt_zero _)
 | k+1,hk,j,hj=>by
  rw [ixs_succ (Nat.lt_of_succ_le hk)]
  by_cases h:j<k
  ·obtain ⟨h1,h2⟩:=ixs_at k (Nat.le_of_succ_le hk) j h
   refine ⟨h1,?_⟩
   rw [List.getElem?_append_left (by rw [ixs_length k (Nat.le_of_succ_le hk)];exact h)]
   exact h2
  ·obtain rfl:j=k:=by omega
   refine ⟨Nat.lt_of_succ_le hk,?_⟩
   rw [List.getElem?_append_right (by rw [ixs_length j (Nat.le_of_succ_le hk)];exact Nat.le_refl _),ixs_length j (Nat.le_of_succ_le hk),Nat.sub_self]
   rfl
end Go.Proofs.YtbbjileignefbaaGreatDoor
namespace Go.Proofs.YtbbjileignefbaaGreatDoor
open Go.RowKit Go.Shelf
set_option maxHeartbeats 2000000 in
theorem shClone_any {w:World} {A:Nat} {l:List Ptr} (h:Bx w A (encS l)) (hm:l.length≤4096) :
  Calls Tryz.prog 155 #[.slice (some ⟨A,0,none⟩) l.length l.length] w fun e w'=>∃ v',e=.returned v'∧w'.ownsRow w.heap.size 138 1 v' l.length (encS l)∧Below w.heap.size w w':=by
 obtain ⟨i0,hi,hz0,hz1,hz2⟩:=info_parts Tryz.infoPtr
 have q:∀ (w:World) (a:Option Addr) (n c n' c':Nat),(binOp .eql 174 (.slice a n c) (.slice none n' c')).run Tryz.prog w=.ok (.bool a.isNone) w:=fun w a n c n' c'=>Lib.run_eql_slice_nil w _ _ a n c n' c' Tryz.underlying174
 have A':=Lib.hid h
 clear h
 obtain ⟨n,hn⟩:∃ n,l.length=n:=⟨_,rfl⟩
 have HN:=Lib.hid hn
 rw [hn] at hm ⊢
 clear hn
 go_enter Tryz.func155,Tryz.ntmps155
 go_wp2_with (at_builtin;refine wpList_append_own _ rfl _ _ 174 rfl w.heap.size 138 i0 (.pointer none) 1 8 Tryz.underlying174 hi hz0 hz1 hz2 rfl (by decide) _ _ _ rfl (World.ownsRow_made w #[] 0 (Nat.le_refl _) (Nat.zero_le _) rfl) ⟨A,0,none⟩ n n (encS l) rfl ?qc1 ?qc2 ?qc3 ?qc4 ?qc5 ?qc6 ?_)
 case qc1=>simp [encS];exact HN.out
 case qc2 =>
  intro j u hj
  rw [show (⟨A,0,none⟩:Addr).add j=⟨A,j,none⟩ by unfold Addr.add;split<;>simp_all]
  exact bl_cell (up_alloc (Below.refl _ _) _) (A'.out.cell j hj)
 case qc3=>intro u hu;obtain ⟨x,_,rfl⟩:=List.mem_map.1 hu;rfl
 case qc4=>unfold maxLen;omega
 case qc5=>omega
 case qc6=>simp
 intro v' w1 hown hgrow hnil
 go_wp2
 go_ret
 refine ⟨v',rfl,by simpa using hown,?_⟩
 exact ((Below.refl _ w).alloc (Nat.le_refl _) _).grown hgrow (by simp) (by intro k hk;simp [Value.ownBlock] at hk;omega)
def KeepS (O:World→Nat→Prop) (W W':World):Prop :=
 W.heap.size≤W'.heap.size∧(∀ b,b<W.heap.size→O W' b→O W b)∧∀ b cur fr,¬ O W b→W.heap[b]?=some (.cells cur 138 fr)→W'.heap[b]?=some (.cells cur 138 fr)
theorem KeepS.trans {O:World→Nat→Prop} {A B C:World} (h:KeepS O A B) (k:KeepS O B C):KeepS O A C :=
 ⟨Nat.le_trans h.1 k.1,fun b hb ho=>h.2.1 b hb (k.2.1 b (by have:=h.1;omega) ho),fun b cur fr hn hc =>
  have hB:=h.2.2 b cur fr hn hc
  k.2.2 b cur fr (fun ho=>hn (h.2.1 b (Array.getElem?_eq_some_iff.1 hc).1 ho)) hB⟩
def encV (x:(Int×Int)×Ptr):Array Value:=#[.agg #[.int .i64 x.1.1,.int .i64 x.1.2],.pointer x.2]
def ptS (c:Int) (l:List Ptr) (k:Nat):List ((Int×Int)×Ptr):=(List.range k).map fun (i:Nat)=>(((i:Int).tmod c,(i:Int).tdiv c),l[i]?.getD none)
theorem ptS_succ (c:Int) (l:List Ptr) (k:Nat):ptS c l (k+1)=ptS c l k++[((((k:Int).tmod c),((k:Int).tdiv c)),l[k]?.getD none)]:=by simp [ptS,List.range_succ]
theorem ptS_length (c:Int) (l:List Ptr) (k:Nat):(ptS c l k).length=k:=by simp [ptS]
def CopyS (W:World) (D:Nat) (l:List Ptr):Prop:=∃ cur fr,W.heap[D]?=some (.cells cur 138 fr)∧cur.toList.take l.length=encS l
theorem CopyS.lt {W:World} {D:Nat} {l:List Ptr} (h:CopyS W D l):D<W.heap.size:=by
 obtain ⟨cur,fr,hc,_⟩:=h
 exact (Array.getElem?_eq_some_iff.1 hc).1
theorem CopyS.cell {W:World} {D:Nat} {l:List Ptr} (h:CopyS W D l) (k:Nat) (x:Ptr) (hx:l[k]?=some x):W.cell? ⟨D,k,none⟩=some (.pointer x):=by
 obtain ⟨cur,fr,hc,ht⟩:=h
 have e:(encS l)[k]?=some (.pointer x):=by simp [encS,hx]
 rw [←ht,List.getElem?_take_of_lt (List.getElem?_eq_some_iff.1 hx).1] at e
 simp [World.cell?,hc]
 simpa using e
theorem CopyS.keep {O:World→Nat→Prop} {W W':World} {D:Nat} {l:List Ptr} (h:CopyS W D l) (hk:KeepS O W W') (ho:¬ O W D):CopyS W' D l∧¬ O W' D:=by
 obtain ⟨cur,fr,hc,ht⟩:=h
 exact ⟨⟨cur,fr,hk.2.2 D cur fr ho hc,ht⟩,fun h=>ho (hk.2.1 D (Array.getElem?_eq_some_iff.1 hc).1 h)⟩
set_option maxRecDepth 100000 in
set_option maxHeartbeats 4000000 in
theorem shAll_in (n:Nat) (O:World→Nat→Prop) (l0 B G A:Nat) (c r:Int) (l:List Ptr) (J Jx:Nat→World→Prop)
  (hal:∀ k W W',J k W→W.grownBy W' none→J k W')
  (hY:∀ (k:Nat) x W,l[k]?=some x→J k W→YieldAt Fence.wide (n-1) Tryz.prog l0 (encV (((k:Int).tmod c,(k:Int).tdiv c),x)) W fun e W' =>
   (e=.returned (.bool true)∧J (k+1) W'∧KeepS O W W')∨(e=.returned (.bool false)∧Jx (k+1) W'))
  (W:World) (hB:W.cell? ⟨B,0,none⟩=some (.pointer (some ⟨G,0,none⟩))) (hG:Gs W G A c r l) (hO:∀ W',Below W.heap.size W W'→∀ b,O W' b→b<W.heap.size) (hOu:∀ V V',W.heap.size≤V.heap.size→Below V.heap.size V V'→KeepS O V V') (h0:J 0 W) :
  CallsIn Fence.wide n Tryz.prog 154 #[.func (.yield l0) #[] #[],.pointer (some ⟨B,0,none⟩)] W fun e W'=>(∃ v,e=.returned v) ∧
   (J l.length W'∨(∃ k,k<l.length∧Jx (k+1) W')):=by
 refine callsIn_of_wp Tryz.func154 rfl trivial ?_ rfl
 simp only [Tryz.ntmps154,List.size_toArray,List.length_cons,List.length_nil,Nat.reduceAdd,Nat.reduceSub,Array.replicate_succ,Array.replicate_zero,List.push_toArray,List.append_toArray,List.nil_append,List.cons_append]
 have b0:=hG.box.cell 0 rfl
 have b2:=hG.box.cell 2 rfl
 have hl:=hG.pos
 have hle:=hG.le
 have c1:=hG.c1
 have c0:c≠0:=by omega
 have HA:=Lib.hid hG
 have KC:=fun (W':World) (h:Below W.heap.size W W')=>shClone_any (hG.up h).row hle
 have HC:=Lib.hid KC
 clear KC hG
 obtain ⟨m,hm⟩:∃ m,l.length=m:=⟨_,rfl⟩
 have HM:=Lib.hid hm
 rw [hm] at b2 hl hle
 rw [hm] at HC
 clear hm
 gi_wp2
 refine wpIn_wide.2 ?_
 go_region_held3 (fun w'=>w'.cell? ⟨B,0,none⟩=some (.pointer (some ⟨G,0,none⟩))∧w'.cell? ⟨G,0,none⟩=some (.int .i64 c)∧w'.cell? ⟨G,2,none⟩=some (.slice (some ⟨A,0,none⟩) m m))
  (first | exact ⟨bl_cell hbc hB,bl_cell hbc b0,bl_cell hbc b2⟩ | exact ⟨hB,b0,b2⟩)
  ((go_at_call 155;refine (HC.out _ (up_drew (Below.refl _ _))).mono ?_;rintro e w1 ⟨v,rfl,hrow,hbc⟩))
 rename_i hK hH
 refine hK _ _ ?_
 clear hH hK
 have hbW:Below W.heap.size W w1:=up_trans (up_drew (Below.refl _ _)) hbc
 obtain ⟨D,cap,rfl,hDo,hDc,hDg⟩:∃ D cap,v=.slice (some ⟨D,0,none⟩) m cap∧¬ O w1 D∧CopyS w1 D l∧W.heap.size≤D:=by
  rcases hrow.2 with ⟨_,h0⟩ | ⟨g,cap,cur,rfl,hb,hg,hcap,hmax,hsz,htk⟩
  ·omega
  ·exact ⟨g,cap,rfl,fun ho=>by have:=hO w1 hbW g ho;have:W.heap.size≤g:=hb;omega,⟨cur,(0,0),hg,by rw [HM.out];simpa using htk⟩,hb⟩
 have hJ1:J 0 w1:=hal 0 W w1 h0 ⟨hbW.os,hbW.tape,hbW.output,hbW.size,fun k hk _=>hbW.block k hk⟩
 clear hrow hbc hbW h0 hB b0 b2 HA HC hO
 have hU:∀ V V',Below V.heap.size V V'→CopyS V D l→¬ O V D→CopyS V' D l∧¬ O V' D:=fun V V' h h1 h2=>h1.keep (hOu V V' (Nat.le_of_lt (Nat.lt_of_le_of_lt hDg h1.lt)) h) h2
 have HU:=Lib.hid hU
 clear hU hOu hDg
 have HY:=Lib.hid hY;have HJ:=Lib.hid hJ1;have HD:=Lib.hid hDc;have HO:=Lib.hid hDo;have HL:=Lib.hid hal
 clear hY hJ1 hDc hDo hal
 gi_wp2
 gi_loopw [20] (fun i wr=>∃ k:Nat,k≤m∧i=.int .i64 (k:Int)∧J k wr∧CopyS wr D l∧¬ O wr D) (fun i _=>m-(intOf i).toNat)
 case atStart=>exact ⟨0,by omega,by go_num,HJ.out,HD.out,HO.out⟩
 case round =>
  obtain ⟨k,hk,rfl,hJs,hC,hOo⟩:=hrel
  by_cases hlt:k<m
  ·obtain ⟨x,hx⟩:∃ x,l[k]?=some x:=⟨l[k]'(by rw [HM.out];exact hlt),List.getElem?_eq_getElem _⟩
   have hcx:=hC.cell k x hx
   have z0:(0:Int)≤(k:Int):=by omega
   have z1:(k:Int)<(m:Int):=by omega
   obtain ⟨q1,hq1⟩:∃ q,(k:Int).tmod c=q:=⟨_,rfl⟩
   obtain ⟨q2,hq2⟩:∃ q,(k:Int).tdiv c=q:=⟨_,rfl⟩
   have hw2:wrap64 q2=q2:=by
    have h1:0≤q2:=by rw [←hq2];exact Int.tdiv_nonneg (by omega) (by omega)
    have h2:q2≤k:=by rw [←hq2];exact Int.tdiv_le_self _ (by omega)
    exact IntWalk.wrap64_in q2 (by omega)
   have KY:=fun W h=>HY.out k x W hx h
   rw [hq1,hq2] at KY
   have HYk:=Lib.hid KY;have HJ2:=Lib.hid hJs;have HC2:=Lib.hid hC;have HO2:=Lib.hid hOo
   clear KY hJs hC hOo hx
   gi_wp2
   refine later_start (w:=wr) ?_
   intro u
   refine iter_tail 9 (by kernel_rfl) (by kernel_rfl) ?_ ?_
   ·rintro ⟨a,w,h⟩
    obtain ⟨v,hv⟩:∃ v,Ending.outgrown=.returned v:=(show (∃ v,Ending.outgrown=.returned v)∧_ from h).1
    cases hv
   ·simp only [List.take_succ_cons,List.take_zero,List.drop_succ_cons,List.drop_zero]
    repeat (go_big_quiet_step (fail))
    refine wpQuiet_nil ?_
    rintro _ ⟨u2,rfl⟩
    have hg2:wr.grownBy u2.now none:=⟨u2.up.os,u2.up.tape,u2.up.output,u2.up.size,fun k hk _=>u2.up.block k hk⟩
    have hJ3:=HL.out _ _ _ HJ2.out hg2
    have hk2:CopyS u2.now D l∧¬ O u2.now D:=HU.out _ _ u2.up HC2.out HO2.out
    obtain ⟨fn,tmps,assign,body,hy,hR⟩:=HYk.out _ hJ3
    unfold encV at hy
    dsimp only at hy
    have HK2:=Lib.hid hk2
    clear hk2 hJ3 hg2 hcx
    generalize u2.now=w3 at *
    gi_wp2
    refine ⟨fun h=>by simp [Fence.wide] at h,hR.mono ?_⟩
    rintro e W3 (⟨rfl,hJ3,hk3⟩ | ⟨rfl,hJx3⟩)
    ·gi_wp2
     go_roundw
     case rel =>
      obtain ⟨h1,h2⟩:=HK2.out.1.keep hk3 HK2.out.2
      exact ⟨k+1,by omega,by go_num,hJ3,h1,h2⟩
     case measure=>simp [intOf];omega
    ·gi_wp2
     refine bodyPost_ret (results_none rfl _ _ _) rfl ?_
     exact ⟨⟨_,rfl⟩,.inr ⟨k,by rw [HM.out];exact hlt,hJx3⟩⟩
  ·have hk2:m≤k:=by omega
   have e:k=m:=by omega
   subst e
   have HJ2:=Lib.hid hJs
   clear hJs hC hOo
   gi_wp2
   go_end0
   exact ⟨⟨_,rfl⟩,.inl (by rw [HM.out];exact HJ2.out)⟩
theorem shAll_stops (n:Nat) (O:World→Nat→Prop) (B G A:Nat) (c r:Int) (l:List Ptr) (w:World) (hB:w.cell? ⟨B,0,none⟩=some (.pointer (some ⟨G,0,none⟩))) (hG:Gs w G A c r l) (hO:∀ W',Below w.heap.size w W'→∀ b,O W' b→b<w.heap.size) (hOu:∀ V V',w.heap.size≤V.heap.size→Below V.heap.size V V'→KeepS O V V') :
  SeqStopsK Fence.wide n Tryz.prog 154 #[.pointer (some ⟨B,0,none⟩)] encV (KeepS O) (fun ys=>ys=ptS c l l.length) (fun pre=>∃ k,k<l.length∧pre=ptS c l (k+1)) l.length w:=fun l0 J Jx W hW hJ _ hY h0 =>
 (shAll_in n O l0 B G A c r l (fun k=>J (ptS c l k)) (fun k=>Jx (ptS c l k)) (fun k W W' h hg=>hJ _ W W' none h hg (fun r e=>by cases e))
  (fun k x W hx h=>by
   have:=hY (ptS c l k) (((k:Int).tmod c,(k:Int).tdiv c),x) W h (by rw [ptS_length];exact (List.getElem?_eq_some_iff.1 hx).1)
   rwa [show ptS c l k++[(((k:Int).tmod c,(k:Int).tdiv c),x)]=ptS c l (k+1) by rw [ptS_succ,hx];rfl] at this)
  W (bl_cell hW hB) (hG.up hW) (fun W' h b ho=>Nat.lt_of_lt_of_le (hO W' (up_trans hW h) b ho) hW.size) (fun V V' h=>hOu V V' (Nat.le_trans hW.size h)) h0).mono
  fun e W' ⟨h1,h2⟩=>⟨h1,h2.elim (fun h=>.inl ⟨_,rfl,h⟩) (fun ⟨k,hk,h⟩=>.inr ⟨_,⟨k,hk,rfl⟩,h⟩)⟩
def encI (c:Int) (l:List Ptr) (k:Ix l.length):Array Value:=encV (((k.1:Int).tmod c,(k.1:Int).tdiv c),l[k.1]'k.2)
theorem shAll_stopsI (n:Nat) (O:World→Nat→Prop) (B G A:Nat) (c r:Int) (l:List Ptr) (w:World) (hB:w.cell? ⟨B,0,none⟩=some (.pointer (some ⟨G,0,none⟩))) (hG:Gs w G A c r l) (hO:∀ W',Below w.heap.size w W'→∀ b,O W' b→b<w.heap.size) (hOu:∀ V V',w.heap.size≤V.heap.size→Below V.heap.size V V'→KeepS O V V') :
  SeqStopsK Fence.wide n Tryz.prog 154 #[.pointer (some ⟨B,0,none⟩)] (encI c l) (KeepS O) (fun ys=>ys=ixs l.length l.length) (fun pre=>∃ k,k<l.length∧pre=ixs l.length (k+1)) l.length w:=fun l0 J Jx W hW hJ _ hY h0 =>
 (shAll_in n O l0 B G A c r l (fun k=>J (ixs l.length k)) (fun k=>Jx (ixs l.length k)) (fun k W W' h hg=>hJ _ W W' none h hg (fun r e=>by cases e))
  (fun k x W hx h=>by
   obtain ⟨hk,rfl⟩:=List.getElem?_eq_some_iff.1 hx
   have:=hY (ixs l.length k) ⟨k,hk⟩ W h (by rw [ixs_length k (by omega)];exact hk)
   rwa [←ixs_succ hk] at this)
  W (bl_cell hW hB) (hG.up hW) (fun W' h b ho=>Nat.lt_of_lt_of_le (hO W' (up_trans hW h) b ho) hW.size) (fun V V' h=>hOu V V' (Nat.le_trans hW.size h)) h0).mono
  fun e W' ⟨h1,h2⟩=>⟨h1,h2.elim (fun h=>.inl ⟨_,rfl,h⟩) (fun ⟨k,hk,h⟩=>.inr ⟨_,⟨k,hk,rfl⟩,h⟩)⟩
attribute [local go_sem] Oper.semAt_some
theorem gs_own {β:Type} (G A:Nat) (c r:Int) (f:β→List Ptr):Own (fun s W=>Gs W G A c r (f s)):=by
 rintro s X Y row h hg hr
 have k1:some G≠row:=fun e=>by
  obtain ⟨o,ho,hc⟩:=hr G e.symm
  obtain ⟨o',ho',hc'⟩:=cells_of_cell (h.box.cell 0 rfl)
  rw [show X.heap[G]?=some o' from ho'] at ho;cases ho;rw [hc'] at hc;cases hc
 have k2:some A≠row:=fun e=>by
  obtain ⟨o,ho,hc⟩:=hr A e.symm
  obtain ⟨x,hx⟩:∃ x,(f s)[0]?=some x:=⟨(f s)[0]'h.pos,List.getElem?_eq_getElem _⟩
  obtain ⟨o',ho',hc'⟩:=cells_of_cell (h.cell 0 x hx)
  rw [show X.heap[A]?=some o' from ho'] at ho;cases ho;rw [hc'] at hc;cases hc
 exact h.kept hg k1 k2
theorem Gs.put {W:World} {G A:Nat} {c r:Int} {l:List Ptr} (h:Gs W G A c r l) {D:Nat} {o o':Obj} (hD:W.heap[D]?=some o) (ho:o.isCells=false):Gs (W.putObj D o') G A c r l :=
 gs_own G A c r (fun _:Unit=>l) () W _ (some D) h (grownBy_putObj' W D o') (fun r e=>by cases e;exact ⟨o,hD,ho⟩)
theorem Gs.isCells {W:World} {G A:Nat} {c r:Int} {l:List Ptr} (h:Gs W G A c r l) {o:Obj} (ho:W.heap[A]?=some o):o.isCells=true:=by
 obtain ⟨x,hx⟩:∃ x,l[0]?=some x:=⟨l[0]'h.pos,List.getElem?_eq_getElem _⟩
 obtain ⟨o',ho',hc'⟩:=cells_of_cell (h.cell 0 x hx)
 rw [show W.heap[A]?=some o' from ho'] at ho
 cases ho
 exact hc'
def OneS (A:Nat) (_:World) (b:Nat):Prop:=b=A
theorem oneS_up (A:Nat) (V V':World) (h:Below V.heap.size V V'):KeepS (OneS A) V V':=⟨h.size,fun b _ ho=>ho,fun b cur fr _ hc=>(h.block b (Array.getElem?_eq_some_iff.1 hc).1).trans hc⟩
theorem oneS_put (A:Nat) (W:World) (l:Nat) (o o':Obj) (hl:W.heap[l]?=some o) (hc:o.isCells=false):KeepS (OneS A) W (W.putObj l o') :=
 ⟨by simp,fun b _ ho=>ho,fun b cur fr _ hb=>by
  have hne:b≠l:=fun e=>by rw [e,hl] at hb;cases hb;cases hc
  exact ((grownBy_putObj' W l o').block b (Array.getElem?_eq_some_iff.1 hb).1 (fun e=>hne (by injection e))).trans hb⟩
theorem oneS_grown (A:Nat) {W W':World} (h:W.grownBy W' (some A)):KeepS (OneS A) W W' :=
 ⟨h.size,fun b _ ho=>ho,fun b cur fr hn hb=>(h.block b (Array.getElem?_eq_some_iff.1 hb).1 (fun e=>hn (by injection e))).trans hb⟩
def stepPs (pc pr col row:Int) (L:List Ptr) (x:(Int×Int)×Ptr):List Ptr:=setS pc pr L (wrap64 (x.1.1-col)) (wrap64 (x.1.2-row)) x.2
def foldPs (pc pr col row:Int) (xs:List ((Int×Int)×Ptr)):List Ptr:=xs.foldl (stepPs pc pr col row) (List.replicate (pc*pr).toNat none)
theorem foldPs_snoc (pc pr col row:Int) (xs:List ((Int×Int)×Ptr)) (x:(Int×Int)×Ptr):foldPs pc pr col row (xs++[x])=setS pc pr (foldPs pc pr col row xs) (wrap64 (x.1.1-col)) (wrap64 (x.1.2-row)) x.2:=by simp [foldPs,stepPs]
set_option maxRecDepth 100000 in
set_option maxHeartbeats 4000000 in
theorem shPart_yes {w:World} {G A:Nat} {c r:Int} {l:List Ptr} (h:Gs w G A c r l) (col row pc pr:Int) (h1:fitB col pc c=true) (h2:fitB row pr r=true) :
  Calls Tryz.prog 158 #[.pointer (some ⟨G,0,none⟩),.int .i64 col,.int .i64 row,.int .i64 pc,.int .i64 pr] w fun e w'=>∃ P PA,e=.returned (.pointer (some ⟨P,0,none⟩))∧Gs w' P PA pc pr (foldPs pc pr col row (ptS c l l.length))∧w.heap.size≤P∧w.heap.size≤PA∧Below w.heap.size w w':=by
 obtain ⟨i1,f0,f1⟩:=fit_in h1 h.c64
 obtain ⟨i2,g0,g1⟩:=fit_in h2 h.r64
 have b1:pc≤64:=by have:=h.c64;omega
 have b2:pr≤64:=by have:=h.r64;omega
 have KF1:=fun w=>calls_b (fits_any col pc c (by have:=h.c1;omega) h.c64 (by omega) w)
 have KF2:=fun w=>calls_b (fits_any row pr r (by have:=h.r1;omega) h.r64 (by omega) w)
 rw [h1] at KF1
 rw [h2] at KF2
 have KN:=fun w=>shNew_yes pc pr i1 i2 w
 have KC:=fun (w':World) (hb:Below w.heap.size w w')=>calls_b (shCols_any (h.up hb))
 have KR:=fun (w':World) (hb:Below w.heap.size w w')=>calls_b (shRows_any (h.up hb))
 have HF1:=Lib.hid KF1;have HF2:=Lib.hid KF2;have HN:=Lib.hid KN;have HC:=Lib.hid KC;have HR:=Lib.hid KR;have HG:=Lib.hid h
 clear KF1 KF2 KN KC KR h i1 i2 h1 h2
 refine (callsIn_wide (n:=3)).1 ?_
 refine callsIn_of_wp_marks Tryz.func158 rfl trivial ?_ rfl
 simp only [Tryz.ntmps158,List.size_toArray,List.length_cons,List.length_nil,Nat.reduceAdd,Nat.reduceSub,Array.replicate_succ,Array.replicate_zero,List.push_toArray,List.append_toArray,List.nil_append,List.cons_append]
 gi_wp2
 have x0:=((Bx.new w 3 [.int .i64 col]).alloc (.cells #[.int .i64 row] 3)).cell 0 rfl
 have x1:=(Bx.new (w.alloc (.cells #[.int .i64 col] 3)) 3 [.int .i64 row]).cell 0 rfl
 have hb1:Below w.heap.size w ((w.alloc (.cells #[.int .i64 col] 3)).alloc (.cells #[.int .i64 row] 3)):=up_alloc (up_alloc (Below.refl _ _) _) _
 simp only [World.size_alloc] at x1
 have y0:=Boxed.alloc (Boxed.new w 3 (.int .i64 col)) (.cells #[.int .i64 row] 3)
 have y1:=Boxed.new (w.alloc (.cells #[.int .i64 col] 3)) 3 (.int .i64 row)
 simp only [World.size_alloc] at y1
 have hsz:((w.alloc (.cells #[.int .i64 col] 3)).alloc (.cells #[.int .i64 row] 3)).heap.size=w.heap.size+2:=by simp
 generalize ((w.alloc (.cells #[.int .i64 col] 3)).alloc (.cells #[.int .i64 row] 3))=w1 at *
 have Y0:=Lib.hid y0;have Y1:=Lib.hid y1;have HB1:=Lib.hid hb1;have HZ:=Lib.hid hsz
 clear y0 y1 hb1 hsz
 have j0:=fun u:Later w1=>u.cell x0
 have j1:=fun u:Later w1=>u.cell x1
 clear x0 x1
 refine wpIn_wide.2 ?_
 refine later_start (w:=w1) ?_
 intro u
 refine wp_region_later (by kernel_rfl) (by kernel_rfl) ?_
 repeat (go_big_quiet_step ((first
  | (go_at_call 156;with_reducible exact Later.call (HC.out _ (up_trans HB1.out (Later.up _))))
  | (go_at_call 157;with_reducible exact Later.call (HR.out _ (up_trans HB1.out (Later.up _))))
  | (go_at_call 165;first | with_reducible exact Later.call (HF1.out _) | with_reducible exact Later.call (HF2.out _)))))
 refine wpQuiet_nil ?_
 rintro _ ⟨u2,rfl⟩
 rename_i hK
 refine hK _ _ ?_
 have y0:Boxed u2.now w.heap.size 3 (.int .i64 col):=(u2.up.block _ Y0.out.lt).trans Y0.out
 have y1:Boxed u2.now (w.heap.size+1) 3 (.int .i64 row):=(u2.up.block _ Y1.out.lt).trans Y1.out
 have hb2:Below w.heap.size w u2.now:=up_trans HB1.out u2.up
 have hs2:w.heap.size+2≤u2.now.heap.size:=by have:=u2.up.size;rw [HZ.out] at this;exact this
 clear hK j0 j1 Y0 Y1 HB1 HZ HC HR HF1 HF2
 generalize u2.now=w2 at *
 have Y0:=Lib.hid y0;have Y1:=Lib.hid y1;have HB2:=Lib.hid hb2
 clear y0 y1 hb2
 gi_wp2_with (first
  | (refine ⟨trivial,?_⟩;gi_at_call 133;refine (callsIn_wide.2 (HN.out _)).mono ?_;rintro e w3 ⟨rfl,hP,hb3⟩;have HP:=Lib.hid hP;have HB3:=Lib.hid hb3;clear hP hb3)
  | (refine ⟨trivial,?_⟩;gi_at_call 134;refine (callsIn_wide.2 (shAll_any _ _)).mono ?_;rintro e w4 ⟨rfl,rfl⟩))
 have hs3:w2.heap.size+2≤w3.heap.size:=by have:=HP.out.ltG;omega
 obtain ⟨W0,hW0⟩:∃ W0,((w3.alloc (.cells #[.pointer (some ⟨w2.heap.size+1,0,none⟩)] 152)).alloc (.cells #[.pointer (some ⟨G,0,none⟩)] 152))=W0:=⟨_,rfl⟩
 have up3:Below w3.heap.size w3 W0:=by rw [←hW0];exact up_alloc (up_alloc (Below.refl _ _) _) _
 have up2:Below w2.heap.size w2 W0:=up_trans HB3.out up3
 have upw:Below w.heap.size w W0:=up_trans HB2.out up2
 have y0:Boxed W0 w.heap.size 3 (.int .i64 col):=(up2.block _ Y0.out.lt).trans Y0.out
 have y1:Boxed W0 (w.heap.size+1) 3 (.int .i64 row):=(up2.block _ Y1.out.lt).trans Y1.out
 have yP:Boxed W0 w3.heap.size 152 (.pointer (some ⟨w2.heap.size+1,0,none⟩)):=by rw [←hW0];exact (Boxed.new w3 _ _).alloc _
 have yG:W0.cell? ⟨w3.heap.size+1,0,none⟩=some (.pointer (some ⟨G,0,none⟩)):=by rw [←hW0];simp [go_sem]
 have gP:Gs W0 (w2.heap.size+1) w2.heap.size pc pr (foldPs pc pr col row []):=HP.out.up up3
 have gG:Gs W0 G A c r l:=HG.out.up upw
 have hsz:W0.heap.size=w3.heap.size+2:=by rw [←hW0];simp
 rw [hW0]
 clear hW0 Y0 Y1 HB2 HB3 HP HN up3 up2
 refine wpIn_rangeFunc_ownH rfl (by decide) (gf:=154) (lb:=#[.pointer (some ⟨w3.heap.size+1,0,none⟩)]) rfl trivial (enters_of Tryz.func154 (by kernel_rfl) rfl)
  (shAll_stops 2 (OneS w2.heap.size) (w3.heap.size+1) G A c r l W0 yG gG (fun W' hb b ho=>by unfold OneS at ho;omega) (fun V V' _ h=>oneS_up _ V V' h)) KeepS.trans (fun W l o o' _ h1 h2 _=>oneS_put _ W l o o' h1 h2) (Below.refl _ _) (fun _=>rfl)
  (fun pre W=>(Gs W (w2.heap.size+1) w2.heap.size pc pr (foldPs pc pr col row pre)∧(Boxed W w.heap.size 3 (.int .i64 col)∧(Boxed W (w.heap.size+1) 3 (.int .i64 row)∧Boxed W w3.heap.size 152 (.pointer (some ⟨w2.heap.size+1,0,none⟩)))))∧Below w.heap.size w W)
  (fun c pre W=>False)
  (OwnFrom.and (OwnFrom.and (Own.from (gs_own _ _ _ _ _) _) (OwnFrom.and (Own.from (boxed_own _ _ _) _) (OwnFrom.and (Own.from (boxed_own _ _ _) _) (Own.from (boxed_own _ _ _) _)))) (ownFrom_below (Nat.le_refl _) (by omega)))
  (fun c=>ownFrom_pure _ (fun _=>False))
  ⟨⟨gP,y0,y1,yP⟩,upw⟩
  (fun x a' W=>∃ Bq,w3.heap.size<Bq∧W.cell? ⟨Bq,0,none⟩=some (.int .i64 x.1.1)∧W.cell? ⟨Bq,1,none⟩=some (.int .i64 x.1.2) ∧
   a'={ tmps:=#[.pointer (some ⟨G,0,none⟩),.int .i64 col,.int .i64 row,.int .i64 pc,.int .i64 pr,undef,.pointer (some ⟨w.heap.size,0,none⟩),.pointer (some ⟨w.heap.size+1,0,none⟩),undef,undef,.pointer none,.pointer (some ⟨w3.heap.size,0,none⟩),.pointer (some ⟨Bq,0,none⟩),.pointer x.2,.int .i64 col,.int .i64 pc,.pointer (some ⟨G,0,none⟩),.int .i64 c,.bool true,.bool false,.bool false,.int .i64 row,.int .i64 pr,.pointer (some ⟨G,0,none⟩),.int .i64 r,.bool true,.bool false,.bool false,.int .i64 pc,.int .i64 pr,.pointer (some ⟨w2.heap.size+1,0,none⟩),.pointer (some ⟨G,0,none⟩),.func (.func 154) #[] #[.pointer (some ⟨w3.heap.size+1,0,none⟩)],.agg #[.int .i64 x.1.1,.int .i64 x.1.2],.pointer x.2,undef,undef,undef,undef,undef,undef,undef,undef,undef,undef,undef,undef],defers:=[] })
  (fun x a' _ X Y row hs hg hr=>by obtain ⟨Bx,h1,h2,h3,h4⟩:=hs;exact ⟨Bx,h1,cell_kept h2 hg (fun r e=>(hr r e).2),cell_kept h3 hg (fun r e=>(hr r e).2),h4⟩)
  ?assign ?body ?done ?stop
 case assign =>
  rintro l pre x W K ⟨⟨hg,k0,k1,kP⟩,hB1⟩ hK
  unfold encV
  gi_wp2
  exact hK _ _ ((KeepsOthers.alloc _ _).from _) (oneS_up _ _ _ (up_alloc (Below.refl _ _) _)) ⟨⟨hg.up (up_alloc (Below.refl _ _) _),k0.alloc _,k1.alloc _,kP.alloc _⟩,hB1.alloc hB1.size _⟩ ⟨W.heap.size,kP.lt,by simp [go_sem],by simp [go_sem],rfl⟩
 case body =>
  rintro l0 pre x a' W hl _ ⟨⟨hg,k0,k1,kP⟩,hB1⟩ ⟨Bq,hBq,x0,x1,rfl⟩ hlen
  have e0:=k0.cell
  have e1:=k1.cell
  have eP:=kP.cell
  obtain ⟨⟨px,py⟩,v⟩:=x
  simp only at x0 x1
  obtain ⟨dx,hdx⟩:∃ d,wrap64 (px-col)=d:=⟨_,rfl⟩
  obtain ⟨dy,hdy⟩:∃ d,wrap64 (py-row)=d:=⟨_,rfl⟩
  have HG2:=Lib.hid hg
  clear hg
  gi_wp2_with (refine ⟨trivial,?_⟩;gi_at_call 135;refine (CallsIn.inRound l0 (callsIn_wide.2 (shSet_any HG2.out _ _ _))).mono ?_;rintro e W1 ⟨rfl,hg1,hgr⟩)
  refine ⟨(KeepsOthers.of_grownBy hgr fun j o ej hj=>?_).from _,oneS_grown _ hgr,⟨⟨?_,k0.kept hgr (by simp;omega),k1.kept hgr (by simp;omega),kP.kept hgr (by simp;omega)⟩,hB1.grown hgr hB1.size (fun k e=>by cases e;omega)⟩⟩
  ·cases ej
   exact HG2.out.isCells hj
  ·rw [foldPs_snoc,hdx,hdy]
   exact hg1
 case done =>
  rintro D ys W hD rfl ⟨⟨hg,k0,k1,kP⟩,hB1⟩ hK
  have hc:=kP.cell
  gi_wp2
  refine ⟨by simp,.inl ⟨_,_,rfl,run_takeDeferred hK,?_⟩⟩
  exact ⟨_,results_tmp rfl _ _ _,_,w2.heap.size,rfl,hg.put hK rfl,by omega,by omega,hB1.trans (belowK_b (w:=w) (Nat.le_refl _) W D _ _ (by omega) hK rfl rfl)⟩
 case stop =>
  rintro D c pre W hD hpre h hK
  exact h.elim
end Go.Proofs.YtbbjileignefbaaGreatDoor
namespace Go.Proofs.YtbbjileignefbaaGreatDoor
open Go.RowKit
def Boxed2 (W:World) (B:Nat) (t:TypeId) (a b:Value):Prop:=W.heap[B]?=some (.cells #[a,b] t (0,0))
theorem Boxed2.c0 {W:World} {B:Nat} {t:TypeId} {a b:Value} (h:Boxed2 W B t a b):W.cell? ⟨B,0,none⟩=some a:=by unfold Boxed2 at h;simp [World.cell?,h]
theorem Boxed2.c1 {W:World} {B:Nat} {t:TypeId} {a b:Value} (h:Boxed2 W B t a b):W.cell? ⟨B,1,none⟩=some b:=by unfold Boxed2 at h;simp [World.cell?,h]
theorem Boxed2.free {W:World} {B:Nat} {t:TypeId} {a b:Value} (h:Boxed2 W B t a b) (j:Nat):W.frozen? ⟨B,j,none⟩=false:=by unfold Boxed2 at h;simp [World.frozen?,h]
theorem boxed2_own {β:Type} (B:Nat) (t:TypeId) (a b:Value):Own (fun (_:β) W=>Boxed2 W B t a b):=by
 rintro s X Y row h hg hr
 refine (hg.block B (Array.getElem?_eq_some_iff.1 h).1 (fun e=>?_)).trans h
 obtain ⟨o,ho,hc⟩:=hr B e.symm
 rw [show X.heap[B]?=_ from h] at ho
 cases ho
 cases hc
def BoxN (W:World) (B:Nat) (t:TypeId) (cs:Array Value):Prop:=W.heap[B]?=some (.cells cs t (0,0))
theorem BoxN.cell {W:World} {B:Nat} {t:TypeId} {cs:Array Value} (h:BoxN W B t cs) (j:Nat) {v:Value} (hv:cs[j]?=some v):W.cell? ⟨B,j,none⟩=some v:=by unfold BoxN at h;simp [World.cell?,h,hv]
theorem BoxN.free {W:World} {B:Nat} {t:TypeId} {cs:Array Value} (h:BoxN W B t cs) (j:Nat):W.frozen? ⟨B,j,none⟩=false:=by unfold BoxN at h;simp [World.frozen?,h]
theorem boxN_own {β:Type} (B:Nat) (t:TypeId) (cs:Array Value):Own (fun (_:β) W=>BoxN W B t cs):=by
 rintro s X Y row h hg hr
 refine (hg.block B (Array.getElem?_eq_some_iff.1 h).1 (fun e=>?_)).trans h
 obtain ⟨o,ho,hc⟩:=hr B e.symm
 rw [show X.heap[B]?=_ from h] at ho
 cases ho
 cases hc
theorem wp_weak {P:Program} {c:Code} {Q Q':Exit→Act→World→Prop} {a:Act} {w:World} (h:c.wp P Q a w) (hq:∀ e a w,Q e a w→Q' e a w):c.wp P Q' a w :=
 fun b k cs=>let ⟨e,a',w',q,r⟩:=h b k cs;⟨e,a',w',hq _ _ _ q,r⟩
structure Decks (w:World) (base:Nat) (M:Nat→Prop) (R:Nat→Nat) (S:Nat→List Pc):Prop where
 dk:∀ D,M D→Dp w base D (R D) (S D)
 ne:∀ D,M D→0<(S D).length
 far:∀ D E,M D→M E→D≠E→R D≠R E
theorem Dp.cross {w:World} {base D R E R':Nat} {l l':List Pc} (h:Dp w base D R l) (k:Dp w base E R' l'):R≠E:=by
 obtain ⟨cap,_,h2⟩:=h.row
 obtain ⟨cur,h3,_⟩:=h2.block
 obtain ⟨cap',k1,_⟩:=k.row
 rintro rfl
 have:=(show w.heap[R]?=_ from k1).symm.trans h3
 simp at this
theorem Dp.cellsD {w:World} {base D R:Nat} {l:List Pc} (h:Dp w base D R l):∃ v,w.heap[D]?=some (.cells #[v] 159 (0,0)):=by
 obtain ⟨cap,h1,_⟩:=h.row
 exact ⟨_,h1⟩
theorem Dp.cellsR {w:World} {base D R:Nat} {l:List Pc} (h:Dp w base D R l):∃ cur,w.heap[R]?=some (.cells cur 141 (0,0)):=by
 obtain ⟨cap,_,h2⟩:=h.row
 obtain ⟨cur,h3,_⟩:=h2.block
 exact ⟨cur,h3⟩
theorem Decks.up {w w':World} {base:Nat} {M:Nat→Prop} {R:Nat→Nat} {S:Nat→List Pc} (h:Decks w base M R S) (hb:Below w.heap.size w w'):Decks w' base M R S:=⟨fun D hD=>(h.dk D hD).up hb,h.ne,h.far⟩
theorem Decks.sub {w:World} {base:Nat} {M M':Nat→Prop} {R:Nat→Nat} {S:Nat→List Pc} (h:Decks w base M R S) (hs:∀ D,M' D→M D):Decks w base M' R S:=⟨fun D hD=>h.dk D (hs D hD),fun D hD=>h.ne D (hs D hD),fun D E hD hE=>h.far D E (hs D hD) (hs E hE)⟩
theorem Decks.kept {w w':World} {base:Nat} {M:Nat→Prop} {R:Nat→Nat} {S:Nat→List Pc} (h:Decks w base M R S) {row:Option Nat} (hg:w.grownBy w' row) (hr:∀ r,row=some r→∃ o:Obj,w.heap[r]?=some o∧o.isCells=false):Decks w' base M R S:=by
 refine ⟨fun D hD=>?_,h.ne,h.far⟩
 have k:=h.dk D hD
 have ne:∀ b cur t,w.heap[b]?=some (.cells cur t (0,0))→some b≠row:=fun b cur t hb e=>by
  obtain ⟨o,ho,hc⟩:=hr b e.symm
  rw [hb] at ho
  cases ho
  cases hc
 obtain ⟨v,hv⟩:=k.cellsD
 obtain ⟨cur,hc⟩:=k.cellsR
 exact k.kept (hg.block D k.ltD (ne _ _ _ hv)) (hg.block _ k.ltR.2 (ne _ _ _ hc))
def putS (S:Nat→List Pc) (D:Nat) (l:List Pc):Nat→List Pc:=fun E=>if E=D then l else S E
theorem putS_at (S:Nat→List Pc) (D:Nat) (l:List Pc):putS S D l D=l:=by simp [putS]
theorem putS_ne {S:Nat→List Pc} {D E:Nat} {l:List Pc} (h:E≠D):putS S D l E=S E:=by simp [putS,h]
theorem Decks.made {w w':World} {base:Nat} {M:Nat→Prop} {R:Nat→Nat} {S:Nat→List Pc} (h:Decks w base M R S) {D:Nat} (hD:M D) {l:List Pc} (hm:MadeP base w D (R D) l w') (hl:0<l.length) :
  ∃ R',Decks w' base M R' (putS S D l)∧(∀ E,M E→R' E=R E∨w.heap.size≤R' E)∧But D (R D) w w':=by
 obtain ⟨r,h1,h2,h3⟩:=hm
 refine ⟨fun E=>if E=D then r else R E,⟨fun E hE=>?_,fun E hE=>?_,fun E E' hE hE' hne=>?_⟩,fun E hE=>?_,h3⟩
 ·by_cases e:E=D
  ·subst e
   simpa [putS] using h1
  ·have k:=h.dk E hE
   have kD:=h.dk D hD
   simp only [if_neg e,putS_ne e]
   exact k.but h3 e (fun h=>(kD.cross k) h.symm) (k.cross kD) (h.far E D hE hD e)
 ·by_cases e:E=D
  ·subst e;rw [putS_at];exact hl
  ·rw [putS_ne e];exact h.ne E hE
 ·have lt:=fun X (hX:M X)=>(h.dk X hX).ltR.2
  by_cases e:E=D
  ·subst e
   have e':E'≠E:=fun h=>hne h.symm
   simp only [if_neg e',if_true]
   rcases h2 with rfl | h2
   ·exact h.far E E' hE hE' hne
   ·have:=lt E' hE';omega
  ·simp only [if_neg e]
   by_cases e':E'=D
   ·subst e'
    simp only [if_true]
    rcases h2 with rfl | h2
    ·exact h.far E E' hE hE' hne
    ·have:=lt E hE;omega
   ·simp only [if_neg e']
    exact h.far E E' hE hE' hne
 ·by_cases e:E=D
  ·subst e;simp only [if_true];exact h2
  ·exact .inl (if_neg e)
theorem But.others {w w':World} {D R:Nat} (h:But D R w w') (hD:∃ v t,w.heap[D]?=some (.cells v t (0,0))) (hR:∃ v t,w.heap[R]?=some (.cells v t (0,0))):KeepsOthers w w':=by
 refine ⟨h.size,fun k o hk ho=>(h.block k (Array.getElem?_eq_some_iff.1 hk).1 ?_ ?_).trans hk⟩
 ·rintro rfl
  obtain ⟨v,t,e⟩:=hD
  rw [e] at hk;cases hk;cases ho
 ·rintro rfl
  obtain ⟨v,t,e⟩:=hR
  rw [e] at hk;cases hk;cases ho
theorem others_below {w w':World} (h:Below w.heap.size w w'):KeepsOthers w w':=KeepsOthers.of_grownBy (row:=none) ⟨h.os,h.tape,h.output,h.size,fun k hk _=>h.block k hk⟩ (fun j o e=>by cases e)
def NoS (_:World) (_:Nat):Prop:=False
theorem noS_up (V V':World) (h:Below V.heap.size V V'):KeepS NoS V V':=⟨h.size,fun b _ ho=>ho,fun b cur fr _ hc=>(h.block b (Array.getElem?_eq_some_iff.1 hc).1).trans hc⟩
theorem noS_put (W:World) (l:Nat) (o o':Obj) (hl:W.heap[l]?=some o) (hc:o.isCells=false):KeepS NoS W (W.putObj l o') :=
 ⟨by simp,fun b _ ho=>ho,fun b cur fr _ hb=>by
  have hne:b≠l:=fun e=>by rw [e,hl] at hb;cases hb;cases hc
  exact ((grownBy_putObj' W l o').block b (Array.getElem?_eq_some_iff.1 hb).1 (fun e=>hne (by injection e))).trans hb⟩
theorem But.keepS {w w':World} {base D R:Nat} {l:List Pc} (h:But D R w w') (hd:Dp w base D R l):KeepS NoS w w':=by
 refine ⟨h.size,fun b _ ho=>ho,fun b cur fr _ hc=>(h.block b (Array.getElem?_eq_some_iff.1 hc).1 ?_ ?_).trans hc⟩
 ·rintro rfl
  obtain ⟨v,e⟩:=hd.cellsD
  rw [e] at hc
  injection hc with h1
  injection h1 with _ h2
  exact absurd h2 (by decide)
 ·rintro rfl
  obtain ⟨v,e⟩:=hd.cellsR
  rw [e] at hc
  injection hc with h1
  injection h1 with _ h2
  exact absurd h2 (by decide)
theorem Bx.same {w w':World} {B:Nat} {vs:List Value} (h:Bx w B vs) (e:w'.heap[B]?=w.heap[B]?):Bx w' B vs :=
 ⟨fun j v hj=>(World.cell?_of_block (a:=⟨B,j,none⟩) e).trans (h.1 j v hj),fun j=>(World.frozen?_of_block (a:=⟨B,j,none⟩) e).trans (h.2 j)⟩
theorem Gs.same {w w':World} {G A:Nat} {c r:Int} {l:List Ptr} (h:Gs w G A c r l) (e1:w'.heap[G]?=w.heap[G]?) (e2:w'.heap[A]?=w.heap[A]?):Gs w' G A c r l:=⟨h.box.same e1,h.row.same e2,h.c1,h.c64,h.r1,h.r64,h.len,h.ne⟩
end Go.Proofs.YtbbjileignefbaaGreatDoor
namespace Go.Proofs.YtbbjileignefbaaGreatDoor
open Go.RowKit Go.Shelf
attribute [local go_sem] Oper.semAt_some
def stepMs (up:Bool) (c r:Int) (L:List Ptr) (x:(Int×Int)×Ptr):List Ptr:=if up=true then setS c r L (wrap64 (c-1-x.1.1)) x.1.2 x.2 else setS c r L x.1.1 (wrap64 (r-1-x.1.2)) x.2
def foldMs (up:Bool) (c r:Int) (xs:List ((Int×Int)×Ptr)):List Ptr:=xs.foldl (stepMs up c r) (List.replicate (c*r).toNat none)
theorem foldMs_snoc (up:Bool) (c r:Int) (xs:List ((Int×Int)×Ptr)) (x:(Int×Int)×Ptr):foldMs up c r (xs++[x])=stepMs up c r (foldMs up c r xs) x:=by simp [foldMs]
structure MadeS (w1:World) (q:Option Addr) (B:Nat) (w':World):Prop where
 box:Boxed w' B 152 (.pointer q)
 up:Below w1.heap.size w1 w'
 new:w1.heap.size≤B
theorem madeS_after {w1 w3:World} {c r:Int} {L:List Ptr} (hb3:Below w1.heap.size w1 w3) (hP:Gs w3 (w1.heap.size+1) w1.heap.size c r L) :
  MadeS w1 (some ⟨w1.heap.size+1,0,none⟩) w3.heap.size (w3.alloc (.cells #[.pointer (some ⟨w1.heap.size+1,0,none⟩)] 152))∧Gs (w3.alloc (.cells #[.pointer (some ⟨w1.heap.size+1,0,none⟩)] 152)) (w1.heap.size+1) w1.heap.size c r L ∧
  w1.heap.size≤w1.heap.size+1∧w1.heap.size≤w1.heap.size∧w3.heap.size≠w1.heap.size+1∧w3.heap.size≠w1.heap.size :=
 ⟨⟨Boxed.new w3 _ _,up_alloc hb3 _,hb3.size⟩,hP.up (up_alloc (Below.refl _ _) _),by omega,by omega,by have:=hP.ltG;omega,by have:=hP.ltG;omega⟩
theorem madeS_before {w1 w3:World} {c r:Int} {L:List Ptr} {v:Value} (hb3:Below (w1.alloc (.cells #[v] 152)).heap.size (w1.alloc (.cells #[v] 152)) w3) (hP:Gs w3 ((w1.alloc (.cells #[v] 152)).heap.size+1) (w1.alloc (.cells #[v] 152)).heap.size c r L) :
  MadeS w1 (some ⟨w1.heap.size+1+1,0,none⟩) w1.heap.size (w3.setCell ⟨w1.heap.size,0,none⟩ (.pointer (some ⟨w1.heap.size+1+1,0,none⟩)))∧Gs (w3.setCell ⟨w1.heap.size,0,none⟩ (.pointer (some ⟨w1.heap.size+1+1,0,none⟩))) (w1.heap.size+1+1) (w1.heap.size+1) c r L ∧
  w1.heap.size≤w1.heap.size+1+1∧w1.heap.size≤w1.heap.size+1∧w1.heap.size≠w1.heap.size+1+1∧w1.heap.size≠w1.heap.size+1:=by
 rw [World.size_alloc] at hP
 have hbx:Boxed w3 w1.heap.size 152 v:=(hb3.block w1.heap.size (by simp)).trans (Boxed.new w1 _ _)
 exact ⟨⟨hbx.set _,up_set (up_trans (up_alloc (Below.refl _ _) _) hb3) (Nat.le_refl _) _,Nat.le_refl _⟩,hP.kept (grownBy_setCell' w3 w1.heap.size _) (by simp;omega) (by simp),by omega,by omega,by omega,by omega⟩
theorem keepS_other {A Bq:Nat} {t:TypeId} (ht:t≠138) {W W1:World} {a b:Value} (hB:Boxed2 W Bq t a b) (hg:W.grownBy W1 (some Bq)):KeepS (OneS A) W W1 :=
 ⟨hg.size,fun b _ ho=>ho,fun b' cur fr hn hb=>by
  refine (hg.block b' (Array.getElem?_eq_some_iff.1 hb).1 (fun e=>?_)).trans hb
  obtain rfl:b'=Bq:=by injection e
  rw [show W.heap[b']?=_ from hB] at hb
  injection hb with h1
  injection h1 with _ h2
  exact ht h2⟩
set_option maxRecDepth 100000 in
set_option maxHeartbeats 4000000 in
theorem shMirror_yes {w:World} {G A:Nat} {c r:Int} {l:List Ptr} (h:Gs w G A c r l) (up:Bool) :
  Calls Tryz.prog 139 #[.pointer (some ⟨G,0,none⟩),.bool up] w fun e w'=>∃ P PA,e=.returned (.pointer (some ⟨P,0,none⟩))∧Gs w' P PA c r (foldMs up c r (ptS c l l.length))∧w.heap.size≤P∧w.heap.size≤PA∧Below w.heap.size w w':=by
 have i1:inB c 1 64=true:=by have:=h.c1;have:=h.c64;simp [inB];omega
 have i2:inB r 1 64=true:=by have:=h.r1;have:=h.r64;simp [inB];omega
 have c1:=h.c1;have c64:=h.c64;have r1:=h.r1;have r64:=h.r64
 have KN:=fun w=>shNew_yes c r i1 i2 w
 have KC:=fun (w':World) (hb:Below w.heap.size w w')=>shCols_any (h.up hb)
 have KR:=fun (w':World) (hb:Below w.heap.size w w')=>shRows_any (h.up hb)
 have HN:=Lib.hid KN;have HC:=Lib.hid KC;have HR:=Lib.hid KR;have HG:=Lib.hid h
 clear KN KC KR h i1 i2
 refine (callsIn_wide (n:=3)).1 ?_
 refine callsIn_of_wp_marks Tryz.func139 rfl trivial ?_ rfl
 simp only [Tryz.ntmps139,List.size_toArray,List.length_cons,List.length_nil,Nat.reduceAdd,Nat.reduceSub,Array.replicate_succ,Array.replicate_zero,List.push_toArray,List.append_toArray,List.nil_append,List.cons_append]
 gi_wp2
 have y0:=Boxed.alloc (Boxed.new w 152 (.pointer (some ⟨G,0,none⟩))) (.cells #[.bool up] 4)
 have y1:=Boxed.new (w.alloc (.cells #[.pointer (some ⟨G,0,none⟩)] 152)) 4 (.bool up)
 have hb1:Below w.heap.size w ((w.alloc (.cells #[.pointer (some ⟨G,0,none⟩)] 152)).alloc (.cells #[.bool up] 4)):=up_alloc (up_alloc (Below.refl _ _) _) _
 simp only [World.size_alloc] at y1
 have hsz:((w.alloc (.cells #[.pointer (some ⟨G,0,none⟩)] 152)).alloc (.cells #[.bool up] 4)).heap.size=w.heap.size+2:=by simp
 generalize ((w.alloc (.cells #[.pointer (some ⟨G,0,none⟩)] 152)).alloc (.cells #[.bool up] 4))=w1 at *
 have Y0:=Lib.hid y0;have Y1:=Lib.hid y1;have HB1:=Lib.hid hb1;have HZ:=Lib.hid hsz
 have x0:=y0.cell
 have X0:=Lib.hid x0
 clear y0 y1 hb1 hsz
 refine wpIn_wide.2 ?_
 refine wp_weak (Q:=fun e a' w'=>e=.normal∧∃ B P PA,MadeS w1 (some ⟨P,0,none⟩) B w'∧Gs w' P PA c r (List.replicate (c*r).toNat none)∧w1.heap.size≤P∧w1.heap.size≤PA∧B≠P∧B≠PA∧a'={ tmps:=#[.pointer (some ⟨G,0,none⟩),.bool up,.pointer (some ⟨w.heap.size,0,none⟩),.pointer (some ⟨w.heap.size+1,0,none⟩),.pointer none,.pointer (some ⟨B,0,none⟩),undef,undef,.pointer (some ⟨G,0,none⟩),.int .i64 c,.pointer (some ⟨G,0,none⟩),.int .i64 r,.pointer (some ⟨P,0,none⟩),undef,undef,undef,undef,undef,undef,undef,undef,undef,undef,undef,undef,undef,undef,undef,undef,undef,undef,undef,undef,undef,undef,undef,undef,undef,undef,undef,undef,undef,undef,undef],defers:=[] }) ?_ ?_
 ·go_region_held3 (fun w'=>w'.cell? ⟨w.heap.size,0,none⟩=some (.pointer (some ⟨G,0,none⟩)))
   ((refine bl_cell (w:=w1) ?_ X0.out;repeat (first | exact Below.refl _ _ | apply up_drew | apply up_alloc | (refine up_trans ?_ hb3) | (refine up_set ?_ (by simp) _))))
   (first
    | (go_at_call 156;(refine Calls.mono (HC.out _ (up_trans HB1.out (by repeat (first | exact Below.refl _ _ | apply up_drew | apply up_alloc)))) ?_);rintro e w2 ⟨rfl,rfl⟩)
    | (go_at_call 157;(refine Calls.mono (HR.out _ (up_trans HB1.out (by repeat (first | exact Below.refl _ _ | apply up_drew | apply up_alloc)))) ?_);rintro e w2 ⟨rfl,rfl⟩)
    | (go_at_call 133;refine (HN.out _).mono ?_;rintro e w3 ⟨rfl,hP,hb3⟩;have hcm:=kept_cells hb3;have hfm:=kept_marks hb3;have zm:=hb3.size;(try simp at zm);(try (have q1:w1.heap.size<w3.heap.size:=by omega));(try (have q2:w1.heap.size+1<w3.heap.size:=by omega))))
  all_goals
   clear hcm hfm
   first
    | (obtain ⟨m1,m2,m3,m4,m5,m6⟩:=madeS_after (w1:=w1) (up_trans (up_drew (Below.refl _ _)) hb3) hP;exact ⟨rfl,_,_,_,m1,m2,m3,m4,m5,m6,rfl⟩)
    | (obtain ⟨m1,m2,m3,m4,m5,m6⟩:=madeS_before (w1:=w1) (v:=.pointer none) (up_trans (up_drew (Below.refl _ _)) hb3) hP;exact ⟨rfl,_,_,_,m1,m2,m3,m4,m5,m6,rfl⟩)
 ·rintro _ _ w2 ⟨rfl,B,P,PA,hM,hP,hlP,hlA,hn1,hn2,rfl⟩
  rename_i hK
  refine hK _ _ ?_
  clear hK x0 X0
  have y0:Boxed w2 w.heap.size 152 (.pointer (some ⟨G,0,none⟩)):=(hM.up.block _ Y0.out.lt).trans Y0.out
  have y1:Boxed w2 (w.heap.size+1) 4 (.bool up):=(hM.up.block _ Y1.out.lt).trans Y1.out
  have hb2:Below w.heap.size w w2:=up_trans HB1.out hM.up
  have hsB:w.heap.size+2≤B:=by have:=hM.new;rw [HZ.out] at this;exact this
  have hsP:w.heap.size+2≤P:=by rw [HZ.out] at hlP;exact hlP
  have hsA:w.heap.size+2≤PA:=by rw [HZ.out] at hlA;exact hlA
  have yB:=hM.box
  clear Y0 Y1 HB1 HZ HC HR HN hM hlP hlA
  have x0:=y0.cell
  have Y0:=Lib.hid y0;have Y1:=Lib.hid y1;have YB:=Lib.hid yB;have HB2:=Lib.hid hb2;have HP:=Lib.hid hP
  clear y0 y1 yB hb2 hP
  gi_wp2_with (refine ⟨trivial,?_⟩;gi_at_call 134;refine (callsIn_wide.2 (shAll_any _ _)).mono ?_;rintro e w4 ⟨rfl,rfl⟩)
  obtain ⟨W0,hW0⟩:∃ W0,(w2.alloc (.cells #[.pointer (some ⟨G,0,none⟩)] 152))=W0:=⟨_,rfl⟩
  have up2:Below w2.heap.size w2 W0:=by rw [←hW0];exact up_alloc (Below.refl _ _) _
  have upw:Below w.heap.size w W0:=up_trans HB2.out up2
  have y0:Boxed W0 w.heap.size 152 (.pointer (some ⟨G,0,none⟩)):=(up2.block _ Y0.out.lt).trans Y0.out
  have y1:Boxed W0 (w.heap.size+1) 4 (.bool up):=(up2.block _ Y1.out.lt).trans Y1.out
  have yB:Boxed W0 B 152 (.pointer (some ⟨P,0,none⟩)):=(up2.block _ YB.out.lt).trans YB.out
  have yG:Boxed W0 w2.heap.size 152 (.pointer (some ⟨G,0,none⟩)):=by rw [←hW0];exact Boxed.new w2 _ _
  have gP:Gs W0 P PA c r (foldMs up c r []):=HP.out.up up2
  have gG:Gs W0 G A c r l:=HG.out.up upw
  have hsz:W0.heap.size=w2.heap.size+1:=by rw [←hW0];simp
  have ltB:=YB.out.lt
  have ltP:=HP.out.ltG
  have ltA:=HP.out.ltA
  have ltG:=HG.out.ltG
  rw [hW0]
  clear hW0 x0 Y0 Y1 YB HB2 HP up2
  refine wpIn_rangeFunc_ownH rfl (by decide) (gf:=154) (lb:=#[.pointer (some ⟨w2.heap.size,0,none⟩)]) rfl trivial (enters_of Tryz.func154 (by kernel_rfl) rfl)
   (shAll_stops 2 (OneS PA) w2.heap.size G A c r l W0 yG.cell gG (fun W' hb b ho=>by unfold OneS at ho;omega) (fun V V' _ h=>oneS_up _ V V' h)) KeepS.trans (fun W l o o' _ h1 h2 _=>oneS_put _ W l o o' h1 h2) (Below.refl _ _) (fun _=>rfl)
   (fun pre W=>(Gs W P PA c r (foldMs up c r pre)∧(Boxed W w.heap.size 152 (.pointer (some ⟨G,0,none⟩))∧(Boxed W (w.heap.size+1) 4 (.bool up)∧(Boxed W B 152 (.pointer (some ⟨P,0,none⟩))∧Boxed W w2.heap.size 152 (.pointer (some ⟨G,0,none⟩))))))∧Below w.heap.size w W)
   (fun c pre W=>False)
   (OwnFrom.and (OwnFrom.and (Own.from (gs_own _ _ _ _ _) _) (OwnFrom.and (Own.from (boxed_own _ _ _) _) (OwnFrom.and (Own.from (boxed_own _ _ _) _) (OwnFrom.and (Own.from (boxed_own _ _ _) _) (Own.from (boxed_own _ _ _) _))))) (ownFrom_below (Nat.le_refl _) (by omega)))
   (fun c=>ownFrom_pure _ (fun _=>False))
   ⟨⟨gP,y0,y1,yB,yG⟩,upw⟩
   (fun x a' W=>∃ Bq,w2.heap.size<Bq∧Boxed2 W Bq 23 (.int .i64 x.1.1) (.int .i64 x.1.2) ∧
    a'={ tmps:=#[.pointer (some ⟨G,0,none⟩),.bool up,.pointer (some ⟨w.heap.size,0,none⟩),.pointer (some ⟨w.heap.size+1,0,none⟩),.pointer none,.pointer (some ⟨B,0,none⟩),.pointer (some ⟨Bq,0,none⟩),.pointer x.2,.pointer (some ⟨G,0,none⟩),.int .i64 c,.pointer (some ⟨G,0,none⟩),.int .i64 r,.pointer (some ⟨P,0,none⟩),.pointer (some ⟨G,0,none⟩),.func (.func 154) #[] #[.pointer (some ⟨w2.heap.size,0,none⟩)],.agg #[.int .i64 x.1.1,.int .i64 x.1.2],.pointer x.2,undef,undef,undef,undef,undef,undef,undef,undef,undef,undef,undef,undef,undef,undef,undef,undef,undef,undef,undef,undef,undef,undef,undef,undef,undef,undef,undef],defers:=[] })
   (fun x a' _ X Y row hs hg hr=>by obtain ⟨Bx,h1,h2,h4⟩:=hs;exact ⟨Bx,h1,boxed2_own Bx _ _ _ () X Y row h2 hg (fun r e=>(hr r e).2),h4⟩)
   ?assign ?body ?done ?stop
  case assign =>
   rintro l0 pre x W K ⟨⟨hg,k0,k1,kB,kG⟩,hB1⟩ hK
   unfold encV
   gi_wp2
   exact hK _ _ ((KeepsOthers.alloc _ _).from _) (oneS_up _ _ _ (up_alloc (Below.refl _ _) _)) ⟨⟨hg.up (up_alloc (Below.refl _ _) _),k0.alloc _,k1.alloc _,kB.alloc _,kG.alloc _⟩,hB1.alloc hB1.size _⟩ ⟨W.heap.size,kG.lt,World.alloc_heap_new W _,rfl⟩
  case body =>
   rintro l0 pre x a' W hl _ ⟨⟨hg,k0,k1,kB,kG⟩,hB1⟩ ⟨Bq,hBq,kQ,rfl⟩ hlen
   obtain ⟨⟨px,py⟩,v⟩:=x
   have gW:=HG.out.up hB1
   have e0:=fun u:Later W=>u.cell k0.cell
   have e1:=k1.cell
   have g0:=fun u:Later W=>u.cell (gW.box.cell 0 rfl)
   have g1:=fun u:Later W=>u.cell (gW.box.cell 1 rfl)
   have q0:=fun u:Later W=>u.cell kQ.c0
   have q1:=fun u:Later W=>u.cell kQ.c1
   have qf:=fun (u:Later W) (j:Nat)=>(kept_marks u.up Bq j (Array.getElem?_eq_some_iff.1 kQ).1).trans (kQ.free j)
   clear gW
   simp only at q0 q1
   have HS:=Lib.hid (foldMs_snoc up c r pre ((px,py),v))
   cases up
   ·obtain ⟨d,hd⟩:∃ d,wrap64 (r-1-py)=d:=⟨_,rfl⟩
    have hs:foldMs false c r (pre++[((px,py),v)])=setS c r (foldMs false c r pre) px d v:=by rw [HS.out,←hd];rfl
    have HT:=Lib.hid hs;have HG2:=Lib.hid hg;have HQ:=Lib.hid qf
    clear hs hg HS
    gi_wp2
    refine later_start (w:=W) ?_
    intro u
    refine round_tail 9 (by kernel_rfl) (by kernel_rfl) (by kernel_rfl) ?_ ?_
    ·rintro ⟨a,w,h⟩
     exact h
    ·simp only [List.take_succ_cons,List.take_zero,List.drop_succ_cons,List.drop_zero]
     repeat (go_big_quiet_step (fail))
     refine wpQuiet_nil ?_
     rintro _ ⟨u2,rfl⟩
     rw [hd]
     have f0:=qf u2 1;have z0:=q1 u2
     have hgr:W.grownBy (u2.now.setCell ⟨Bq,1,none⟩ (.int .i64 d)) (some Bq):=grown_of_below u2.up Bq 1 _
     have c0:(u2.now.setCell ⟨Bq,1,none⟩ (.int .i64 d)).cell? ⟨Bq,1,none⟩=some (.int .i64 d):=World.cell?_setCell_same _ _ _ (q1 u2)
     have c1:(u2.now.setCell ⟨Bq,1,none⟩ (.int .i64 d)).cell? ⟨Bq,0,none⟩=some (.int .i64 px):=(World.cell?_setCell_other _ _ _ _ (by simp)).trans (q0 u2)
     clear e0 g0 g1 q0 q1 qf e1
     go_wp2
     clear z0 f0
     generalize u2.now.setCell ⟨Bq,1,none⟩ (.int .i64 d)=W1 at *
     have hg1:=HG2.out.kept hgr (by simp;omega) (by simp;omega)
     have kB1:=kB.kept hgr (by simp;omega)
     have cB:=kB1.cell
     have HG3:=Lib.hid hg1;have HR1:=Lib.hid hgr
     clear hg1 hgr
     gi_wp2_with (refine ⟨trivial,?_⟩;gi_at_call 135;refine (CallsIn.inRound l0 (callsIn_wide.2 (shSet_any HG3.out _ _ _))).mono ?_;rintro e W2 ⟨rfl,hg2,hgr2⟩)
     have hgr:=HR1.out
     refine ⟨((KeepsOthers.of_grownBy hgr fun j o ej hj=>?_).trans (KeepsOthers.of_grownBy hgr2 fun j o ej hj=>?_)).from _,(keepS_other (by decide) kQ hgr).trans (oneS_grown _ hgr2),⟨⟨?_,(k0.kept hgr (by simp;omega)).kept hgr2 (by simp;omega),(k1.kept hgr (by simp;omega)).kept hgr2 (by simp;omega),kB1.kept hgr2 (by simp;omega),(kG.kept hgr (by simp;omega)).kept hgr2 (by simp;omega)⟩,(hB1.grown hgr hB1.size (fun k e=>by cases e;omega)).grown hgr2 (by have:=hB1.size;have:=hgr.size;omega) (fun k e=>by cases e;omega)⟩⟩
     ·cases ej
      rw [show W.heap[Bq]?=_ from kQ] at hj
      cases hj
      rfl
     ·cases ej
      exact HG3.out.isCells hj
     ·rw [HT.out]
      exact hg2
   ·obtain ⟨d,hd⟩:∃ d,wrap64 (c-1-px)=d:=⟨_,rfl⟩
    have hs:foldMs true c r (pre++[((px,py),v)])=setS c r (foldMs true c r pre) d py v:=by rw [HS.out,←hd];rfl
    have HT:=Lib.hid hs;have HG2:=Lib.hid hg;have HQ:=Lib.hid qf
    clear hs hg HS
    gi_wp2
    refine later_start (w:=W) ?_
    intro u
    refine round_tail 9 (by kernel_rfl) (by kernel_rfl) (by kernel_rfl) ?_ ?_
    ·rintro ⟨a,w,h⟩
     exact h
    ·simp only [List.take_succ_cons,List.take_zero,List.drop_succ_cons,List.drop_zero]
     repeat (go_big_quiet_step (fail))
     refine wpQuiet_nil ?_
     rintro _ ⟨u2,rfl⟩
     rw [hd]
     have f0:=qf u2 0;have z0:=q0 u2
     have hgr:W.grownBy (u2.now.setCell ⟨Bq,0,none⟩ (.int .i64 d)) (some Bq):=grown_of_below u2.up Bq 0 _
     have c0:(u2.now.setCell ⟨Bq,0,none⟩ (.int .i64 d)).cell? ⟨Bq,0,none⟩=some (.int .i64 d):=World.cell?_setCell_same _ _ _ (q0 u2)
     have c1:(u2.now.setCell ⟨Bq,0,none⟩ (.int .i64 d)).cell? ⟨Bq,1,none⟩=some (.int .i64 py):=(World.cell?_setCell_other _ _ _ _ (by simp)).trans (q1 u2)
     clear e0 g0 g1 q0 q1 qf e1
     go_wp2
     clear z0 f0
     generalize u2.now.setCell ⟨Bq,0,none⟩ (.int .i64 d)=W1 at *
     have hg1:=HG2.out.kept hgr (by simp;omega) (by simp;omega)
     have kB1:=kB.kept hgr (by simp;omega)
     have cB:=kB1.cell
     have HG3:=Lib.hid hg1;have HR1:=Lib.hid hgr
     clear hg1 hgr
     gi_wp2_with (refine ⟨trivial,?_⟩;gi_at_call 135;refine (CallsIn.inRound l0 (callsIn_wide.2 (shSet_any HG3.out _ _ _))).mono ?_;rintro e W2 ⟨rfl,hg2,hgr2⟩)
     have hgr:=HR1.out
     refine ⟨((KeepsOthers.of_grownBy hgr fun j o ej hj=>?_).trans (KeepsOthers.of_grownBy hgr2 fun j o ej hj=>?_)).from _,(keepS_other (by decide) kQ hgr).trans (oneS_grown _ hgr2),⟨⟨?_,(k0.kept hgr (by simp;omega)).kept hgr2 (by simp;omega),(k1.kept hgr (by simp;omega)).kept hgr2 (by simp;omega),kB1.kept hgr2 (by simp;omega),(kG.kept hgr (by simp;omega)).kept hgr2 (by simp;omega)⟩,(hB1.grown hgr hB1.size (fun k e=>by cases e;omega)).grown hgr2 (by have:=hB1.size;have:=hgr.size;omega) (fun k e=>by cases e;omega)⟩⟩
     ·cases ej
      rw [show W.heap[Bq]?=_ from kQ] at hj
      cases hj
      rfl
     ·cases ej
      exact HG3.out.isCells hj
     ·rw [HT.out]
      exact hg2
  case done =>
   rintro D ys W hD rfl ⟨⟨hg,k0,k1,kB,kG⟩,hB1⟩ hK
   have hc:=kB.cell
   gi_wp2
   refine ⟨by simp,.inl ⟨_,_,rfl,run_takeDeferred hK,?_⟩⟩
   exact ⟨_,results_tmp rfl _ _ _,_,PA,rfl,hg.put hK rfl,by omega,by omega,hB1.trans (belowK_b (w:=w) (Nat.le_refl _) W D _ _ (by omega) hK rfl rfl)⟩
  case stop =>
   rintro D c pre W hD hpre h hK
   exact h.elim
end Go.Proofs.YtbbjileignefbaaGreatDoor
namespace Go.Proofs.YtbbjileignefbaaGreatDoor
open Go.RowKit
def wantPs (c col row pc pr:Int) (l:List Ptr):List Ptr:=(List.range (pc*pr).toNat).map fun k=>l[(srcP c col row pc k).toNat]?.getD none
theorem part_eqS (c r col row pc pr:Int) (l:List Ptr) (hl:(l.length:Int)=c*r) (hc:1≤c) (hc64:c≤64) (hr64:r≤64) (h0:0≤col) (h1:col+pc≤c) (h2:0≤row) (h3:row+pr≤r) (hp:1≤pc) (hq:1≤pr) :
  foldPs pc pr col row (ptS c l l.length)=wantPs c col row pc pr l:=by
 have hm:0≤pc*pr:=Int.mul_nonneg (by omega) (by omega)
 unfold foldPs ptS wantPs
 rw [List.foldl_map]
 refine fold_sets none l l.length (pc*pr).toNat _ (fun k=>if hasB pc pr (wrap64 ((k:Int).tmod c-col)) (wrap64 ((k:Int).tdiv c-row))=true then some (at1 pc (wrap64 ((k:Int).tmod c-col)) (wrap64 ((k:Int).tdiv c-row))) else none) (fun k=>(srcP c col row pc k).toNat) ?_ ?_ ?_
 ·intro L k
  simp only [stepPs,setS]
  split<;>rfl
 ·intro k j hk hj
  obtain ⟨x,y,e1,e2,b0,b1,b2,b3,b4⟩:=split_place k c r hc (by omega)
  obtain ⟨x',y',f1,f2,d0,d1,d2,d3,d4⟩:=split_place j pc pr hp (by omega)
  have hsr:=srcP_lt (c:=c) (r:=r) (col:=col) (row:=row) (pc:=pc) (pr:=pr) hc h0 h1 h2 h3 hp j (by omega)
  rw [e1,e2,IntWalk.wrap64_in (x-col) (by omega),IntWalk.wrap64_in (y-row) (by omega)]
  have hsv:srcP c col row pc j=(row+y')*c+(col+x'):=by unfold srcP;rw [f1,f2,Int.add_assoc]
  constructor
  ·intro h
   split at h
   ·rename_i hh
    have hat:=at1_lt hh
    simp [hasB] at hh
    obtain ⟨⟨g1,g2⟩,g3,g4⟩:=hh
    injection h with h
    unfold at1 at h
    have hj2:(j:Int)=(y-row)*pc+(x-col):=by omega
    obtain ⟨t1,t2⟩:=td (y-row) (x-col) pc (by omega) (by omega) (by omega)
    rw [←hj2,f1] at t2
    rw [←hj2,f2] at t1
    have:srcP c col row pc j=k:=by
     rw [hsv,t1,t2,←b4]
     congr 1
     ·congr 1;omega
     ·omega
    omega
   ·cases h
  ·intro h
   have hk2:(row+y')*c+(col+x')=(k:Int):=by rw [←hsv];omega
   obtain ⟨t1,t2⟩:=td (row+y') (col+x') c (by omega) (by omega) (by omega)
   rw [hk2,e2] at t1
   rw [hk2,e1] at t2
   have e3:x-col=x':=by omega
   have e4:y-row=y':=by omega
   rw [e3,e4,if_pos (by simp [hasB];omega)]
   unfold at1
   rw [d4]
   simp
 ·intro j hj
  have hsr:=srcP_lt (c:=c) (r:=r) (col:=col) (row:=row) (pc:=pc) (pr:=pr) hc h0 h1 h2 h3 hp j (by omega)
  omega
def wantMs (up:Bool) (c r:Int) (l:List Ptr):List Ptr:=(List.range (c*r).toNat).map fun k=>l[(srcM up c r k).toNat]?.getD none
theorem mirror_eqS (up:Bool) (c r:Int) (l:List Ptr) (hl:(l.length:Int)=c*r) (hc:1≤c) (hc64:c≤64) (hr64:r≤64) (hr:1≤r) :
  foldMs up c r (ptS c l l.length)=wantMs up c r l:=by
 have hm:0≤c*r:=Int.mul_nonneg (by omega) (by omega)
 have hlm:l.length=(c*r).toNat:=by omega
 unfold foldMs ptS wantMs
 rw [List.foldl_map]
 have hk:∀ k:Nat,k<l.length→(if up=true then (if hasB c r (wrap64 (c-1-(k:Int).tmod c)) ((k:Int).tdiv c)=true then some (at1 c (wrap64 (c-1-(k:Int).tmod c)) ((k:Int).tdiv c)) else none) else (if hasB c r ((k:Int).tmod c) (wrap64 (r-1-(k:Int).tdiv c))=true then some (at1 c ((k:Int).tmod c) (wrap64 (r-1-(k:Int).tdiv c))) else none))=some (srcM up c r k).toNat:=by
  intro k hk
  obtain ⟨x,y,e1,e2,b0,b1,b2,b3,b4⟩:=split_place k c r hc (by omega)
  rw [e1,e2,IntWalk.wrap64_in (c-1-x) (by omega),IntWalk.wrap64_in (r-1-y) (by omega)]
  cases up
  ·rw [if_neg (by simp),if_pos (by simp [hasB];omega)]
   simp [srcM,at1,e1,e2]
  ·rw [if_pos rfl,if_pos (by simp [hasB];omega)]
   simp [srcM,at1,e1,e2]
 refine fold_sets none l l.length (c*r).toNat _ (fun k=>if up=true then (if hasB c r (wrap64 (c-1-(k:Int).tmod c)) ((k:Int).tdiv c)=true then some (at1 c (wrap64 (c-1-(k:Int).tmod c)) ((k:Int).tdiv c)) else none) else (if hasB c r ((k:Int).tmod c) (wrap64 (r-1-(k:Int).tdiv c))=true then some (at1 c ((k:Int).tmod c) (wrap64 (r-1-(k:Int).tdiv c))) else none)) (fun k=>(srcM up c r k).toNat) ?_ ?_ ?_
 ·intro L k
  cases up
  ·simp only [stepMs,setS,Bool.false_eq_true,if_false]
   split<;>rfl
  ·simp only [stepMs,setS,if_true]
   split<;>rfl
 ·intro k j hkl hj
  have e:=hk k hkl
  constructor
  ·intro h
   rw [e] at h
   injection h with h
   rw [←h]
   exact srcM_twice up hc k (by omega)
  ·intro h
   rw [e,←h]
   rw [srcM_twice up hc j (by omega)]
 ·intro j hj
  have:=srcM_lt up (c:=c) (r:=r) hc j (by omega)
  omega
theorem wantMs_length (up:Bool) (c r:Int) (l:List Ptr):(wantMs up c r l).length=(c*r).toNat:=by simp [wantMs]
theorem wantPs_length (c col row pc pr:Int) (l:List Ptr):(wantPs c col row pc pr l).length=(pc*pr).toNat:=by simp [wantPs]
end Go.Proofs.YtbbjileignefbaaGreatDoor
