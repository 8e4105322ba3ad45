/- Part 4 of the texts that the proofs of this seat share: PileLib, PileDeck, PileTurn, QuietTail, GridSmall, SheetCode, RoundQuiet. -/
import Derived.Test.YtbbjileignefbaaGreatDoorPart3
import Derived.Maps.AppendAt
import Derived.Lib.AppendZerosOnto
import Derived.Lib.Overlaps
import Derived.Shelf.Spec.SlicesInsert
import Derived.Laws.NewBlocks
import Derived.Deep.RegionLaw
import Derived.Deep.RegionHeld3
import Derived.BigRegion
import Derived.Test.YtbbjileignefbaaGreatDoorPart1
import Derived.StillTail
import Derived.Test.YtbbjileignefbaaGreatDoorProg
import Derived.IntWalk
import Derived.Laws.AppendOwn
import Derived.Lib.Hide
import Derived.Laws.MakeOwn
import Derived.RangeFuncNested
import Derived.RangeFuncCalls
import Derived.OrdersIn
set_option linter.unusedVariables false
namespace Go.Proofs.YtbbjileignefbaaGreatDoor
open Go.RowKit Go.Sort Go.Lib
theorem flat_pcs (l:List Pc):flatK Pc.cells 4 l.toArray=(pcs l).toArray:=by
 apply Array.ext
 ·simp [pcs_length]
 ·intro t h1 h2
  have ht:t<l.length*4:=by simpa using h1
  have e:=get_flatK Pc.cells 4 l.toArray t (by simpa using ht)
  rw [getElem!_pos _ t h1] at e
  rw [e]
  have hj:t / 4<l.length:=by omega
  have hp:=pcs_at (l:=l) (j:=t / 4) (p:=l[t / 4]) (List.getElem?_eq_getElem hj) (t%4) (by omega)
  rw [show t / 4*4+t%4=t by omega] at hp
  have hc:t%4<(l[t / 4]).cells.length:=by simp [Pc.cells];omega
  rw [List.getElem?_eq_getElem (by rw [pcs_length];exact ht),List.getElem?_eq_getElem hc] at hp
  have e2:l.toArray[t / 4]! = l[t / 4]:=by rw [getElem!_pos _ (t / 4) (by simpa using hj)];simp
  rw [e2,getElem!_pos _ (t%4) hc]
  simpa using (Option.some.inj hp).symm
theorem Row.holds {w:World} {base g cap:Nat} {l:List Pc} (h:Row w base g cap l):HoldsK Pc.cells 4 w g 0 l.toArray:=by
 unfold HoldsK
 rw [flat_pcs]
 intro j hj
 have hj':j<(pcs l).length:=by simpa using hj
 refine ⟨?_,h.free _⟩
 rw [Nat.zero_add,h.at j _ (List.getElem?_eq_getElem hj'),getElem!_pos _ j hj]
 simp
theorem put_heap {w:World} {g n:Nat} {cur:Array Value} {e:TypeId} {fr:Nat×Nat} (F:Array Value) (hb:w.heap[g]?=some (.cells cur e fr)):(putRow id (Sort.ahead w n) g 0 F).heap[g]?=some (.cells (putCells id 0 F cur) e fr):=by
 simp [putRow,mapBlock,Sort.ahead,Array.getElem?_modify,hb,onCells]
theorem put_other {w:World} {g n:Nat} (F:Array Value) {k:Nat} (hk:k≠g):(putRow id (Sort.ahead w n) g 0 F).heap[k]?=w.heap[k]?:=by
 have:g≠k:=fun e=>hk e.symm
 simp [putRow,mapBlock,Sort.ahead,Array.getElem?_modify,this]
theorem put_take (cur:Array Value) (F:List Value) (h:F.length≤cur.size):(putCells id 0 F.toArray cur).toList.take F.length=F:=by
 apply List.ext_getElem?
 intro j
 by_cases hj:j<F.length
 ·rw [List.getElem?_take_of_lt hj,Array.getElem?_toList]
  simp [putCells,hj,show j<cur.size by omega]
 ·rw [List.getElem?_take_eq_none (by omega),List.getElem?_eq_none (by omega)]
theorem pcReverse_any {w:World} {base g cap:Nat} {l:List Pc} (h:Row w base g cap l) (hm:l.length≤1000000) :
  Calls Tryz.prog 159 #[.slice (some ⟨g,0,none⟩) l.length cap] w fun e w'=>e=.returned (.tuple #[])∧Row w' base g cap l.reverse∧Below base w w':=by
 have K:Calls Tryz.prog 159 _ _ _:=AnyQ.slices_Reverse Tryz.laysSlgn35 4 Tryz.isAgg141 Tryz.sizeOf141 Pc.cells (fun _=>rfl) (fun p v hv=>pcs_one (l:=[p]) v (by simpa [pcs] using hv)) g 0 cap l.toArray w h.holds (by simp;omega)
 rw [show l.toArray.size=l.length by simp] at K
 refine K.mono ?_
 rintro e w' ⟨rfl,n,rfl⟩
 obtain ⟨cur,h2,h3,h4,h5,h6,h1⟩:=h.block
 have e1:l.toArray.reverse=l.reverse.toArray:=by simp
 have hpl:(pcs l.reverse).length=l.length*4:=by rw [pcs_length,List.length_reverse]
 refine ⟨rfl,Row.of_block h1 (put_heap _ h2) (by simpa using h3) h4 (by simpa [putCells] using h5) ?_,?_⟩
 ·rw [e1,flat_pcs,List.length_reverse]
  have:=put_take cur (pcs l.reverse) (by rw [hpl];omega)
  rwa [hpl] at this
 ·exact ⟨rfl,rfl,rfl,by simp [putRowK,putRow,mapBlock,Sort.ahead],fun k hk=>put_other _ (by have:=h.lt;omega)⟩
theorem run_copy_k {P:Program} (w:World) (dT sT ty elem:TypeId) (k b o dLen dCap:Nat) (a:Addr) (sLen sCap:Nat) (cs:List Value)
  (hu:P.underlying dT=some (.slice elem)) (hs:(P.info? elem).map (·.size)=some k) (hn:cs.length=Nat.min sLen dLen*k)
  (hsrc:∀ j v,cs[j]?=some v→w.cell? (a.add j)=some v) (hc:∀ j,j<cs.length→(w.cell? ⟨b,o+j,none⟩).isSome=true) (hf:∀ j,j<cs.length→w.frozen? ⟨b,o+j,none⟩=false) (h1:∀ v∈cs,v.oneCell'=true) :
  (Builtin.copy_ #[dT,sT] ty #[.slice (some ⟨b,o,none⟩) dLen dCap,.slice (some a) sLen sCap]).run P w=.ok (goInt (Nat.min sLen dLen)) (w.setCells b o cs):=by
 have hst:=run_storeCells_cells (P:=P) b o cs 0 w (by simpa using hc) (by simpa using hf) h1
 cases hq:P.info? elem with
 | none=>simp [hq] at hs
 | some i =>
  have hi:i.size=k:=by simpa [hq] using hs
  have hl:=run_firstCells_some (P:=P) w i.size (Nat.min sLen dLen) a sLen sCap cs (by rw [hi];exact hn) hsrc
  simp [Builtin.copy_,run_underlying hu,Builtin.lenOf,sizeOf,typeInfo,hq,hl,hst]
theorem heap_setCells_list (b:Nat):∀ (vs:List Value) (o:Nat) (w:World) (cur:Array Value) (t:TypeId),w.heap[b]?=some (.cells cur t (0,0))→o+vs.length≤cur.size→∃ cur',(w.setCells b o vs).heap[b]?=some (.cells cur' t (0,0))∧cur'.toList=cur.toList.take o++vs++cur.toList.drop (o+vs.length)
 | [],o,w,cur,t,h,_=>⟨cur,h,by simp⟩
 | v :: r,o,w,cur,t,h,hlen=>by
  simp only [List.length_cons] at hlen
  have h1:(w.setCell ⟨b,o,none⟩ v).heap[b]?=some (.cells (cur.setIfInBounds o v) t (0,0)):=by
   obtain ⟨hlt,hk⟩:=Array.getElem?_eq_some_iff.1 h
   show (w.heap.modify b _)[b]?=_
   rw [Array.getElem?_eq_getElem (by rw [Array.size_modify];exact hlt),Array.getElem_modify_self,hk]
   rfl
  obtain ⟨cur',h2,h3⟩:=heap_setCells_list b r (o+1) _ _ t h1 (by simp;omega)
  refine ⟨cur',h2,?_⟩
  rw [h3]
  have e:(cur.setIfInBounds o v).toList=cur.toList.take o++v :: cur.toList.drop (o+1):=by
   rw [Array.toList_setIfInBounds,List.set_eq_take_append_cons_drop,if_pos (by simp;omega)]
  have lt:(cur.toList.take o).length=o:=by rw [List.length_take];simp;omega
  have e1:(cur.toList.take o++v :: cur.toList.drop (o+1)).take (o+1)=cur.toList.take o++[v]:=by
   rw [List.take_append,lt,List.take_of_length_le (by omega),show o+1-o=1 by omega]
   rfl
  have e2:(cur.toList.take o++v :: cur.toList.drop (o+1)).drop (o+1+r.length)=cur.toList.drop (o+(r.length+1)):=by
   rw [List.drop_append,lt,List.drop_eq_nil_of_le (by omega),show o+1+r.length-o=r.length+1 by omega,List.drop_succ_cons,List.drop_drop,List.nil_append]
   congr 1
   omega
  rw [e,e1,e2]
  simp
def InsP (base:Nat) (w:World) (g:Nat) (l:List Pc) (e:Ending) (w':World):Prop :=
 ∃ g' cap',e=.returned (.slice (some ⟨g',0,none⟩) l.length cap')∧Row w' base g' cap' l∧(g'=g∨w.heap.size≤g')∧But g g w w'
theorem but_of_grown {w w':World} {g:Nat} (h:w.grownBy w' (some g)):But g g w w':=⟨h.os,h.tape,h.output,h.size,fun k hk h1 _=>h.block k hk (by simpa using h1)⟩
theorem addr0 (g j:Nat):(⟨g,0,none⟩:Addr).add j=⟨g,j,none⟩:=by unfold Addr.add;split<;>simp_all
set_option maxRecDepth 100000 in
set_option maxHeartbeats 1000000 in
theorem pcInsert_end {w:World} {base g cap:Nat} {l xs:List Pc} (h:Row w base g cap l) (u c2:Nat) (hu:PcsAt w u xs) (hl0:0<l.length) (hx0:0<xs.length) (hl:l.length≤1000000) (hx:xs.length≤1000000) :
  Calls Tryz.prog 166 #[.slice (some ⟨g,0,none⟩) l.length cap,.int .i64 (l.length:Int),.slice (some ⟨u,0,none⟩) xs.length c2] w (InsP base w g (l++xs)):=by
 obtain ⟨i0,hi,hz0,hz1,hz2⟩:=info_parts Tryz.infoPc
 have hcap:l.length≤cap∧cap≤maxLen:=by obtain ⟨cur,_,h3,h4,_⟩:=h.block;exact ⟨h3,h4⟩
 have HR:=Lib.hid h;have HU:=Lib.hid hu
 have HX:Hid ((pcs xs).length=xs.length*4):=Lib.hid (pcs_length xs)
 have HLX:Hid ((l++xs).length=l.length+xs.length):=Lib.hid List.length_append
 have hbase:=h.lt
 clear h hu
 generalize hn:l.length=n at *
 generalize hm:xs.length=m at *
 have HN:=Lib.hid hn;have HM:=Lib.hid hm
 clear hn hm
 have z1:¬ ((m:Int)=0):=by omega
 rcases Decidable.em (cap=n) with rfl | hne
 all_goals
  go_enter Tryz.func166,Tryz.ntmps166
  go_wp2_with (at_builtin;refine wpList_append_own_at _ rfl _ _ 157 rfl base 141 i0 _ 4 24 Tryz.underlying157 hi hz0 hz1 hz2 rfl (by omega) _ _ _ rfl (HN.out ▸ HR.out.own) ⟨u,0,none⟩ m c2 (pcs xs) rfl ?qc1 ?qc2 ?qc3 ?qc4 ?qc5 ?qc6 ?_)
  case qc1=>exact HX.out
  case qc2=>intro j v hj;rw [addr0];exact HU.out j v hj
  case qc3=>exact pcs_one
  case qc4=>unfold maxLen;omega
  case qc5=>omega
  case qc6=>omega
  intro v' w1 hown hgrow hnil hat
  rw [←pcs_append,←HLX.out] at hown
  obtain ⟨g',cap',rfl,hrow⟩:=Row.of_own hown (by rw [HLX.out];omega)
  have HO:=Lib.hid hrow;have HG:=Lib.hid (but_of_grown (g:=g) hgrow)
  have HA:=Lib.hid hat
  clear hown hgrow hnil hat hrow
  go_wp2
  go_ret
  refine ⟨g',cap',rfl,HO.out,?_,HG.out⟩
  have:=HA.out
  simp [Value.ownBlock] at this
  omega
theorem run_overlaps_pc {w:World} (u g o:Nat) (m c2 lb cb:Nat) (hne:u≠g) (curu curg:Array Value) (hu:w.heap[u]?=some (.cells curu 141 (0,0))) (hg:w.heap[g]?=some (.cells curg 141 (0,0))) (h0:curg.size≠0) :
  (callFunc 173 #[.slice (some ⟨u,0,none⟩) m c2,.slice (some ⟨g,o,none⟩) lb cb]).run Tryz.prog w=.ok (.value (.bool false)) w:=by
 rw [run_callFunc_extern Tryz.func173 (by kernel_rfl) (by kernel_rfl) (by kernel_rfl) (e:=Extern.SlicesOverlaps.overlaps #[157,157] #[4]) (by kernel_rfl),
  Lib.run_overlaps_apart w 157 4 141 Tryz.underlying157 4 Tryz.sizeOf141 ⟨u,0,none⟩ ⟨g,o,none⟩ m c2 lb cb hne 141 141 curu.size curg.size (by simp [World.shape?,hu]) (by simp [World.shape?,hg]) h0 (row_frozen hu _) (row_frozen hu _)]
 rfl
set_option maxHeartbeats 4000000 in
set_option maxRecDepth 100000 in
theorem pcInsert_room {w:World} {base g cap:Nat} {l xs:List Pc} (h:Row w base g cap l) (base2 u c2:Nat) (hu:Row w base2 u c2 xs) (hne:u≠g) (hl0:0<l.length) (hx0:0<xs.length) (hl:l.length≤1000000) (hx:xs.length≤1000000) (hroom:l.length+xs.length≤cap) :
  Calls Tryz.prog 166 #[.slice (some ⟨g,0,none⟩) l.length cap,.int .i64 0,.slice (some ⟨u,0,none⟩) xs.length c2] w (InsP base w g (xs++l)):=by
 obtain ⟨cur,h2,h3,h4,h5,h6,h1⟩:=h.block
 obtain ⟨curu,k2,k3,k4,k5,k6,k1⟩:=hu.block
 have hov:=fun o lb cb=>run_overlaps_pc (w:=w) u g o xs.length c2 lb cb hne curu cur k2 h2 (by omega)
 have HL:=Lib.hid (pcs_length l);have HX:=Lib.hid (pcs_length xs);have HA:=Lib.hid h.at;have HU:=Lib.hid hu.at
 have hsz:(Tryz.prog.info? 141).map (·.size)=some 4:=by kernel_rfl
 have c1:∀ ty dc sc,(Builtin.copy_ #[157,157] ty #[.slice (some ⟨g,xs.length*4,none⟩) l.length dc,.slice (some ⟨g,0,none⟩) (l.length+xs.length) sc]).run Tryz.prog w.drew=.ok (goInt l.length) (w.drew.setCells g (xs.length*4) (pcs l)):=fun ty dc sc=>by
  have:=run_copy_k (P:=Tryz.prog) w.drew _ 157 ty _ 4 g (xs.length*4) l.length dc ⟨g,0,none⟩ (l.length+xs.length) sc (pcs l) Tryz.underlying157 hsz (by rw [pcs_length,show Nat.min (l.length+xs.length) l.length=l.length from Nat.min_eq_right (by omega)])
   (fun j v hj=>by rw [addr0];exact h.at j v hj) (fun j hj=>row_some (w:=w.drew) h2 _ (by rw [HL.out] at hj;omega)) (fun j _=>row_frozen (w:=w.drew) h2 _) pcs_one
  rwa [show Nat.min (l.length+xs.length) l.length=l.length from Nat.min_eq_right (by omega)] at this
 obtain ⟨cur1,e1,e2⟩:=heap_setCells_list g (pcs l) (xs.length*4) w.drew cur _ h2 (by rw [pcs_length];omega)
 obtain ⟨W1,hW1⟩:∃ W1,w.drew.setCells g (xs.length*4) (pcs l)=W1:=⟨_,rfl⟩
 have hb1:But g g w W1:=by rw [←hW1];exact (drew_but g g w).trans (setCells_but g g _ _ _) (.inl rfl)
 rw [hW1] at e1 c1
 have s1:cur1.size=cap*4:=by
  have:=congrArg List.length e2
  simp [HL.out] at this
  omega
 have hU1:PcsAt W1 u xs:=fun j v hv=>by
  rw [World.cell?_of_block (a:=⟨u,j,none⟩) (hb1.block u hu.lt.2 hne hne)]
  exact hu.at j v hv
 have c2':∀ ty dc sc,(Builtin.copy_ #[157,157] ty #[.slice (some ⟨g,0,none⟩) (l.length+xs.length) dc,.slice (some ⟨u,0,none⟩) xs.length sc]).run Tryz.prog W1=.ok (goInt xs.length) (W1.setCells g 0 (pcs xs)):=fun ty dc sc=>by
  have:=run_copy_k (P:=Tryz.prog) W1 _ 157 ty _ 4 g 0 (l.length+xs.length) dc ⟨u,0,none⟩ xs.length sc (pcs xs) Tryz.underlying157 hsz (by rw [pcs_length,show Nat.min xs.length (l.length+xs.length)=xs.length from Nat.min_eq_left (by omega)])
   (fun j v hj=>by rw [addr0];exact hU1 j v hj) (fun j hj=>row_some e1 _ (by rw [HX.out] at hj;omega)) (fun j _=>row_frozen e1 _) pcs_one
  rwa [show Nat.min xs.length (l.length+xs.length)=xs.length from Nat.min_eq_left (by omega)] at this
 obtain ⟨cur2,f1,f2⟩:=heap_setCells_list g (pcs xs) 0 W1 cur1 _ e1 (by rw [pcs_length];omega)
 have s2:cur2.size=cap*4:=by
  have:=congrArg List.length f2
  simp [HX.out] at this
  omega
 have hfin:InsP base w g (xs++l) (.returned (.slice (some ⟨g,0,none⟩) (l.length+xs.length) cap)) (W1.setCells g 0 (pcs xs)):=by
  refine ⟨g,cap,by rw [List.length_append,Nat.add_comm],Row.of_block h1 f1 (by rw [List.length_append];omega) h4 s2 ?_,.inl rfl,hb1.trans (setCells_but g g _ _ _) (.inl rfl)⟩
  rw [f2,e2]
  have lt:(cur.toList.take (xs.length*4)).length=xs.length*4:=by rw [List.length_take];simp;omega
  have t1:((cur.toList.take (xs.length*4)++pcs l++cur.toList.drop (xs.length*4+(pcs l).length)).drop (0+(pcs xs).length))=pcs l++cur.toList.drop (xs.length*4+(pcs l).length):=by
   rw [Nat.zero_add,HX.out,List.append_assoc,List.drop_append,lt,List.drop_eq_nil_of_le (by omega),Nat.sub_self]
   rfl
  rw [t1,List.take_zero,List.nil_append,←List.append_assoc,←pcs_append,List.length_append,List.take_append,List.take_of_length_le (by rw [pcs_length,List.length_append];exact Nat.le_refl _)]
  rw [pcs_length (xs++l),List.length_append,Nat.sub_self]
  simp
 have HF:=Lib.hid hfin
 clear hfin f1 f2 e1 e2 s1 s2 hU1 hb1 h2 h5 h6 h1 k1 k2 k3 k4 k5 k6 h hu HA HU cur2 cur1
 generalize l.length=n at *
 generalize xs.length=m at *
 have z1:¬ ((m:Int)=0):=by omega
 have z2:¬ ((n:Int)=0):=by omega
 have z3:¬ ((cap:Int)<(n:Int)+(m:Int)):=by omega
 have z4:cap≤9223372036854775807:=by unfold maxLen at h4;omega
 have z5:IntKind.i64.wrap (m:Int)=(m:Int):=IntWalk.i64_in _ (by omega)
 have z6:(0:Int)≤(m:Int):=by omega
 have z7:(m:Int)≤(n:Int)+(m:Int):=by omega
 have z8:¬ (cap=m):=by omega
 have z10:(0:Int)≤(n:Int)+(m:Int):=by omega
 have z9:n+m-m=n:=by omega
 have HW:=Lib.hid hW1
 clear hW1
 go_enter Tryz.func166,Tryz.ntmps166
 go_wp2_with (simp only [hov])
 go_region_law (refine step_copy_runI rfl _ _ 157 157 rfl _ _ (by simp [Act.eval,Act.put]) (by simp [Act.eval,Act.put]) (c1 _ _ _) ?_)
 go_wp2_with (at_builtin;refine wpList_copy_runI _ rfl _ _ 157 157 rfl _ _ rfl rfl (c2' _ _ _) ?_)
 go_ret
 exact HF.out
theorem zeros4_size (n:Nat):(Builtin.zeroCells (Value.agg #[.int .i64 0,.int .i64 0,.bool false,.bool false]).cells n).size=n*4:=by simp [Builtin.zeroCells,Value.cells]
set_option maxHeartbeats 4000000 in
set_option maxRecDepth 100000 in
theorem pcInsert_grow {w:World} {base g cap:Nat} {l xs:List Pc} (h:Row w base g cap l) (base2 u c2:Nat) (hu:Row w base2 u c2 xs) (hl0:0<l.length) (hx0:0<xs.length) (hl:l.length≤1000000) (hx:xs.length≤1000000) (hroom:cap<l.length+xs.length) :
  Calls Tryz.prog 166 #[.slice (some ⟨g,0,none⟩) l.length cap,.int .i64 0,.slice (some ⟨u,0,none⟩) xs.length c2] w (InsP base w g (xs++l)):=by
 obtain ⟨cur,h2,h3,h4,h5,h6,h1⟩:=h.block
 obtain ⟨i0,hi,hz0,hz1,hz2⟩:=info_parts Tryz.infoPc
 have HL:=Lib.hid (pcs_length l);have HX:=Lib.hid (pcs_length xs);have HA:=Lib.hid h.at;have HU:=Lib.hid hu.at
 have hsz:(Tryz.prog.info? 141).map (·.size)=some 4:=by kernel_rfl
 obtain ⟨N,hN⟩:∃ N,l.length+xs.length=N:=⟨_,rfl⟩
 rw [hN] at hroom
 have hrz:∀ ty,(Builtin.append_ #[157,3] ty #[.slice (some ⟨g,0,none⟩) 0 cap,.int .i64 (N:Int)]).run Tryz.prog w =
   .ok (.slice (some ⟨w.heap.size,0,none⟩) N (grownCap w N cap 141)) (w.drew.alloc (.cells (#[]++Builtin.zeroCells (Value.agg #[.int .i64 0,.int .i64 0,.bool false,.bool false]).cells N++Builtin.zeroCells (Value.agg #[.int .i64 0,.int .i64 0,.bool false,.bool false]).cells (grownCap w N cap 141-N)) 141)):=fun ty=>by
  have hold:(Builtin.firstCells i0.size 0 (.slice (some ⟨g,0,none⟩) 0 cap)).run Tryz.prog w.drew=.ok ([]:List Value).toArray w.drew:=run_firstCells_some w.drew i0.size 0 ⟨g,0,none⟩ 0 cap [] (by simp) (fun j v hj=>by simp at hj)
  have h:=Lib.run_append_grow_zeros w 157 3 ty 141 i0 _ .i64 .i64 Tryz.underlying157 Tryz.underlying3 hi hz0 (some ⟨g,0,none⟩) 0 cap [] hold N (by omega) (by omega) (by omega) (by omega) (by rw [hz2];omega) (by rw [hz2,Nat.zero_add];exact growslice_fits hroom (by omega))
  rw [Nat.zero_add] at h
  exact h
 have hGn:N≤grownCap w N cap 141:=grownCap_ge w _ _ _
 have hGm:=grownCap_le_maxLen w N cap 141 (by unfold maxLen;omega)
 generalize grownCap w N cap 141=G at *
 obtain ⟨ROW,hROW⟩:∃ ROW:Array Value,#[]++Builtin.zeroCells (Value.agg #[.int .i64 0,.int .i64 0,.bool false,.bool false]).cells N++Builtin.zeroCells (Value.agg #[.int .i64 0,.int .i64 0,.bool false,.bool false]).cells (G-N)=ROW:=⟨_,rfl⟩
 rw [hROW] at hrz
 have hRs:ROW.size=G*4:=by
  rw [←hROW,Array.size_append,Array.size_append,zeros4_size,zeros4_size]
  simp
  omega
 clear hROW
 obtain ⟨W0,hW0⟩:∃ W0,w.drew.alloc (.cells ROW 141)=W0:=⟨_,rfl⟩
 have e0:W0.heap[w.heap.size]?=some (.cells ROW 141 (0,0)):=by rw [←hW0];exact heap_new w.drew _
 have hbw:Below w.heap.size w W0:=by rw [←hW0];exact up_alloc (up_drew (Below.refl _ _)) _
 rw [hW0] at hrz
 have c1:∀ ty dc sc,(Builtin.copy_ #[157,157] ty #[.slice (some ⟨w.heap.size,0,none⟩) N dc,.slice (some ⟨u,0,none⟩) xs.length sc]).run Tryz.prog W0=.ok (goInt xs.length) (W0.setCells w.heap.size 0 (pcs xs)):=fun ty dc sc=>by
  have:=run_copy_k (P:=Tryz.prog) W0 _ 157 ty _ 4 w.heap.size 0 N dc ⟨u,0,none⟩ xs.length sc (pcs xs) Tryz.underlying157 hsz (by rw [pcs_length,show Nat.min xs.length N=xs.length from Nat.min_eq_left (by omega)])
   (fun j v hj=>by rw [addr0];exact (hu.at.up hbw) j v hj) (fun j hj=>row_some e0 _ (by rw [HX.out] at hj;omega)) (fun j _=>row_frozen e0 _) pcs_one
  rwa [show Nat.min xs.length N=xs.length from Nat.min_eq_left (by omega)] at this
 obtain ⟨cur1,e1,e2⟩:=heap_setCells_list w.heap.size (pcs xs) 0 W0 ROW _ e0 (by rw [pcs_length];omega)
 obtain ⟨W1,hW1⟩:∃ W1,W0.setCells w.heap.size 0 (pcs xs)=W1:=⟨_,rfl⟩
 have hb1:But w.heap.size w.heap.size W0 W1:=by rw [←hW1];exact setCells_but _ _ _ _ _
 rw [hW1] at e1 c1
 have s1:cur1.size=G*4:=by
  have:=congrArg List.length e2
  simp [HX.out] at this
  omega
 have hA1:PcsAt W1.drew g l:=fun j v hv=>by
  show W1.cell? ⟨g,j,none⟩=some v
  rw [World.cell?_of_block (a:=⟨g,j,none⟩) (hb1.block g (Nat.lt_of_lt_of_le h.lt.2 hbw.size) (by have:=h.lt;omega) (by have:=h.lt;omega))]
  exact (h.at.up hbw) j v hv
 have c2':∀ ty dc sc,(Builtin.copy_ #[157,157] ty #[.slice (some ⟨w.heap.size,xs.length*4,none⟩) l.length dc,.slice (some ⟨g,0,none⟩) l.length sc]).run Tryz.prog W1.drew=.ok (goInt l.length) (W1.drew.setCells w.heap.size (xs.length*4) (pcs l)):=fun ty dc sc=>by
  have:=run_copy_k (P:=Tryz.prog) W1.drew _ 157 ty _ 4 w.heap.size (xs.length*4) l.length dc ⟨g,0,none⟩ l.length sc (pcs l) Tryz.underlying157 hsz (by rw [pcs_length,show Nat.min l.length l.length=l.length from Nat.min_self _])
   (fun j v hj=>by rw [addr0];exact hA1 j v hj) (fun j hj=>row_some (w:=W1.drew) e1 _ (by rw [HL.out] at hj;omega)) (fun j _=>row_frozen (w:=W1.drew) e1 _) pcs_one
  rwa [show Nat.min l.length l.length=l.length from Nat.min_self _] at this
 obtain ⟨cur2,f1,f2⟩:=heap_setCells_list w.heap.size (pcs l) (xs.length*4) W1.drew cur1 _ e1 (by rw [pcs_length];omega)
 have s2:cur2.size=G*4:=by
  have:=congrArg List.length f2
  simp [HL.out] at this
  omega
 have hfin:InsP base w g (xs++l) (.returned (.slice (some ⟨w.heap.size,0,none⟩) N G)) (W1.drew.setCells w.heap.size (xs.length*4) (pcs l)):=by
  refine ⟨w.heap.size,G,by rw [List.length_append,Nat.add_comm,hN],Row.of_block (by have:=h.lt;omega) f1 (by rw [List.length_append];omega) hGm s2 ?_,.inr (Nat.le_refl _),?_⟩
  ·rw [f2,e2]
   have t1:(List.take 0 ROW.toList++pcs xs++ROW.toList.drop (0+(pcs xs).length)).take (xs.length*4)=pcs xs:=by
    rw [List.take_zero,List.nil_append,←HX.out,List.take_left' rfl]
   rw [t1,←pcs_append,List.length_append,List.take_append,List.take_of_length_le (by rw [pcs_length,List.length_append];exact Nat.le_refl _)]
   rw [pcs_length (xs++l),List.length_append,Nat.sub_self]
   simp
  ·have b2:=setCells_but w.heap.size w.heap.size (xs.length*4) (pcs l) W1.drew
   exact ⟨b2.os.trans (hb1.os.trans hbw.os),b2.tape.trans (hb1.tape.trans hbw.tape),b2.output.trans (hb1.output.trans hbw.output),Nat.le_trans hbw.size (Nat.le_trans hb1.size b2.size),fun k hk _ _ =>
    (b2.block k (Nat.lt_of_lt_of_le hk (Nat.le_trans hbw.size hb1.size)) (by omega) (by omega)).trans ((hb1.block k (Nat.lt_of_lt_of_le hk hbw.size) (by omega) (by omega)).trans (hbw.block k hk))⟩
 have HF:=Lib.hid hfin
 clear hfin f1 f2 e1 e2 e0 s1 s2 hA1 hb1 hbw h2 h5 h6 h1 h hu HA HU cur2 cur1 cur hRs
 have HW:=Lib.hid hW1;have HW0:=Lib.hid hW0
 clear hW1 hW0
 generalize l.length=n at *
 generalize xs.length=m at *
 have z1:¬ ((m:Int)=0):=by omega
 have z2:¬ ((n:Int)=0):=by omega
 have z3:(cap:Int)<(n:Int)+(m:Int):=by omega
 have z4:cap≤9223372036854775807:=by unfold maxLen at h4;omega
 have z5:IntKind.i64.wrap (m:Int)=(m:Int):=IntWalk.i64_in _ (by omega)
 have z6:(0:Int)≤(m:Int):=by omega
 have z7:(m:Int)≤(N:Int):=by omega
 have z8:¬ (G=m):=by omega
 have z9:N-m=n:=by omega
 have z11:(n:Int)+(m:Int)=(N:Int):=by omega
 have z12:IntKind.i64.wrap (N:Int)=(N:Int):=IntWalk.i64_in _ (by omega)
 have z13:¬ (G=0):=by omega
 have z14:¬ (cap=0):=by omega
 go_enter Tryz.func166,Tryz.ntmps166
 go_wp2_with (first
  | (at_builtin;refine Lib.wpList_append_run _ rfl _ _ _ _ rfl _ _ rfl rfl _ _ (hrz _) ?_)
  | (at_builtin;refine wpList_copy_runI _ rfl _ _ 157 157 rfl _ _ rfl rfl (c1 _ _ _) ?_))
 go_region_law (refine step_copy_runI rfl _ _ 157 157 rfl _ _ (by simp [Act.eval,Act.put]) (by simp [Act.eval,Act.put]) (c2' _ _ _) ?_)
 go_wp2
 go_ret
 exact HF.out
end Go.Proofs.YtbbjileignefbaaGreatDoor
namespace Go.Proofs.YtbbjileignefbaaGreatDoor
open Go.RowKit
def NewP (w:World) (l:List Pc) (e:Ending) (w':World):Prop:=∃ D R,e=.returned (.pointer (some ⟨D,0,none⟩))∧Dp w' w.heap.size D R l∧Below w.heap.size w w'
theorem pcOf_any {w:World} {b:Nat} {l:List Pc} (c:Nat) (h:PcsAt w b l) (h0:0<l.length) (hm:l.length≤1000000) :
  Calls Tryz.prog 136 #[.slice (some ⟨b,0,none⟩) l.length c] w (NewP w l):=by
 have HK:=Lib.hid (pcClone_any c h h0 hm)
 clear h
 go_enter Tryz.func136,Tryz.ntmps136
 go_wp2_with fail
 refine HK.out.mono ?_
 rintro e w1 ⟨g,cap,rfl,hrow,hb⟩
 have HR:=Lib.hid hrow;have HB:=Lib.hid hb
 clear hrow hb HK
 go_wp2
 go_ret
 exact ⟨w1.heap.size,g,rfl,⟨HB.out.size,cap,Boxed.new w1 _ _,HR.out.kept (Below.heap_alloc _ _ _ HR.out.lt.2)⟩,up_alloc HB.out _⟩
theorem pcLen_any {w:World} {base D R:Nat} {l:List Pc} (h:Dp w base D R l) :
  Calls Tryz.prog 109 #[.pointer (some ⟨D,0,none⟩)] w fun e w'=>e=.returned (.int .i64 (l.length:Int))∧w'=w:=by
 obtain ⟨cap,h1,h2⟩:=h.row
 have b0:=h1.cell
 clear h h1 h2
 go_enter Tryz.func109,Tryz.ntmps109
 go_wp2
 go_ret
 exact ⟨rfl,rfl⟩
def ListP (w:World) (l:List Pc) (e:Ending) (w':World):Prop:=∃ g cap,e=.returned (.slice (some ⟨g,0,none⟩) l.length cap)∧Row w' w.heap.size g cap l∧Below w.heap.size w w'
theorem pcList_any {w:World} {base D R:Nat} {l:List Pc} (h:Dp w base D R l) (h0:0<l.length) (hm:l.length≤1000000) :
  Calls Tryz.prog 123 #[.pointer (some ⟨D,0,none⟩)] w (ListP w l):=by
 obtain ⟨cap,h1,h2⟩:=h.row
 have b0:=h1.cell
 have HK:=Lib.hid (pcClone_any cap h2.at h0 hm)
 clear h h1 h2
 go_enter Tryz.func123,Tryz.ntmps123
 go_wp2_with fail
 refine HK.out.mono ?_
 rintro e w1 ⟨g,c,rfl,hrow,hb⟩
 have HR:=Lib.hid hrow;have HB:=Lib.hid hb
 clear hrow hb HK
 go_wp2
 go_ret
 exact ⟨g,c,rfl,HR.out,HB.out⟩
theorem pcInsert_front {w:World} {base g cap:Nat} {l xs:List Pc} (h:Row w base g cap l) (base2 u c2:Nat) (hu:Row w base2 u c2 xs) (hne:u≠g) (hl0:0<l.length) (hx0:0<xs.length) (hl:l.length≤1000000) (hx:xs.length≤1000000) :
  Calls Tryz.prog 166 #[.slice (some ⟨g,0,none⟩) l.length cap,.int .i64 0,.slice (some ⟨u,0,none⟩) xs.length c2] w (InsP base w g (xs++l)):=by
 by_cases hroom:l.length+xs.length≤cap
 ·exact pcInsert_room h base2 u c2 hu hne hl0 hx0 hl hx hroom
 ·exact pcInsert_grow h base2 u c2 hu hl0 hx0 hl hx (by omega)
set_option maxHeartbeats 1000000 in
theorem pcLay_core {w:World} {base D R D2 R2:Nat} {l xs L:List Pc} (h:Dp w base D R l) (ho:Dp w base D2 R2 xs) (k:Int) (hx0:0<xs.length) (hx:xs.length≤1000000)
  (KI:∀ w' cap u c2,Below w.heap.size w w'→Row w' base R cap l→Row w' w.heap.size u c2 xs→Calls Tryz.prog 166 #[.slice (some ⟨R,0,none⟩) l.length cap,.int .i64 k,.slice (some ⟨u,0,none⟩) xs.length c2] w' (InsP base w' R L)) :
  Calls Tryz.prog 160 #[.pointer (some ⟨D,0,none⟩),.int .i64 k,.pointer (some ⟨D2,0,none⟩)] w fun e w'=>e=.returned (.tuple #[])∧MadeP base w D R L w':=by
 have HD:=Lib.hid h
 have hne:=h.ne
 obtain ⟨cap,h1,h2⟩:=h.row
 have KL:=fun (w':World) (hb:Below w.heap.size w w')=>pcList_any (ho.up hb) hx0 hx
 have HL:=Lib.hid KL;have HI:=Lib.hid KI;have H1:=Lib.hid h1;have H2:=Lib.hid h2
 have b0:=h1.cell
 clear KL KI h1 h2 ho h
 go_enter Tryz.func160,Tryz.ntmps160
 go_wp2
 go_region_with (first
   | (go_at_call 123;refine (HL.out _ (up_drew (Below.refl _ _))).mono ?_;rintro e w1 ⟨u,c2,rfl,hu,hb1⟩;have hB1:Below w.heap.size w w1:=up_trans (up_drew (Below.refl _ _)) hb1;have hD1:Boxed w1 D 159 (.slice (some ⟨R,0,none⟩) l.length cap):=(hB1.block _ H1.out.lt).trans H1.out;have b1:=hD1.cell)
   | (go_at_call 166;refine (HI.out _ _ _ _ hB1 (H2.out.up hB1) hu).mono ?_;rintro e w2 ⟨g',cap',rfl,hr',hR',hb2⟩;have hD2:Boxed w2 D 159 (.slice (some ⟨R,0,none⟩) l.length cap):=(hb2.block D hD1.lt (fun e=>hne e.symm) (fun e=>hne e.symm)).trans hD1;have b2:=hD2.cell;have f2:=hD2.frozen))
 all_goals
  go_end0
  exact ⟨rfl,HD.out.put ((But.of hB1).trans hb2.more (.inr (.inl rfl))) hD2 hr' (hR'.elim .inl (fun h=>.inr (Nat.le_trans hB1.size h)))⟩
theorem pcOver_any {w:World} {base D R D2 R2:Nat} {l xs:List Pc} (h:Dp w base D R l) (ho:Dp w base D2 R2 xs) (hl0:0<l.length) (hx0:0<xs.length) (hl:l.length≤1000000) (hx:xs.length≤1000000) :
  Calls Tryz.prog 142 #[.pointer (some ⟨D,0,none⟩),.pointer (some ⟨D2,0,none⟩)] w fun e w'=>e=.returned (.tuple #[])∧MadeP base w D R (xs++l) w':=by
 have HK:=Lib.hid (pcLay_core h ho 0 hx0 hx (fun w' cap u c2 hb hr hu=>pcInsert_front hr _ u c2 hu (by have:=hu.lt;have:=h.ltR;omega) hl0 hx0 hl hx))
 clear h ho
 go_enter Tryz.func142,Tryz.ntmps142
 go_wp2_with fail
 refine HK.out.mono ?_
 rintro e w1 ⟨rfl,hm⟩
 have HM:=Lib.hid hm
 clear hm HK
 go_wp2
 go_end0
 exact ⟨rfl,HM.out⟩
theorem pcUnder_any {w:World} {base D R D2 R2:Nat} {l xs:List Pc} (h:Dp w base D R l) (ho:Dp w base D2 R2 xs) (hl0:0<l.length) (hx0:0<xs.length) (hl:l.length≤1000000) (hx:xs.length≤1000000) :
  Calls Tryz.prog 141 #[.pointer (some ⟨D,0,none⟩),.pointer (some ⟨D2,0,none⟩)] w fun e w'=>e=.returned (.tuple #[])∧MadeP base w D R (l++xs) w':=by
 have HK:=Lib.hid (pcLay_core h ho (l.length:Int) hx0 hx (fun w' cap u c2 hb hr hu=>pcInsert_end hr u c2 hu.at hl0 hx0 hl hx))
 have HN:=Lib.hid (pcLen_any h)
 clear h ho
 go_enter Tryz.func141,Tryz.ntmps141
 go_wp2_with (go_at_call 109;refine HN.out.mono ?_;rintro e w' ⟨rfl,rfl⟩)
 refine HK.out.mono ?_
 rintro e w1 ⟨rfl,hm⟩
 have HM:=Lib.hid hm
 clear hm HK
 go_wp2
 go_end0
 exact ⟨rfl,HM.out⟩
def flipP (up:Bool) (p:Pc):Pc:=if up=true then ⟨p.n,!p.fx,p.fy⟩ else ⟨p.n,p.fx,!p.fy⟩
theorem over_any {w:World} {U:Nat} {up:Bool} (hU:w.cell? ⟨U,0,none⟩=some (.bool up)) (p:Pc) :
  Calls Tryz.prog 137 #[p.val,.pointer (some ⟨U,0,none⟩)] w fun e w'=>e=.returned (flipP up p).val∧Below w.heap.size w w':=by
 obtain ⟨n,fx,fy⟩:=p
 unfold Pc.val
 dsimp only
 have x0:=bl_cell (up_alloc (up_alloc (Below.refl _ w) (.cells #[.int .i64 n,.int .i64 0,.bool fx,.bool fy] 141)) (.cells #[.int .i64 0,.int .i64 0,.bool false,.bool false] 141)) hU
 clear hU
 cases up
 all_goals
  go_enter Tryz.func137,Tryz.ntmps137
  go_wp2
  refine bodyPost_ret (v:=.agg _) (by simp [results,Tryz.results137,go_sem,flipP]) rfl ⟨rfl,?_⟩
  repeat (first | with_reducible exact Below.refl _ _ | apply up_alloc | refine up_set ?_ (by simp) _)
theorem pcTurn_run (U:Nat) (w:World):(binOp .neq 168 (.func (.func 137) #[] #[.pointer (some ⟨U,0,none⟩)]) .nilFunc).run Tryz.prog w=.ok (.bool true) w:=by kernel_rfl
def partP (up:Bool) (k:Nat) (L:List Pc):List Pc:=(L.take k).map (flipP up)++L.drop k
theorem partP_length (up:Bool) (k:Nat) (L:List Pc):(partP up k L).length=L.length:=by simp [partP];omega
theorem partP_at {up:Bool} {k:Nat} {L:List Pc} {x:Pc} (h:L[k]?=some x):(partP up k L)[k]?=some x∧partP up (k+1) L=(partP up k L).set k (flipP up x):=by
 obtain ⟨hk,rfl⟩:=List.getElem?_eq_some_iff.1 h
 have hl:((L.take k).map (flipP up)).length=k:=by simp;omega
 refine ⟨?_,?_⟩
 ·unfold partP
  rw [List.getElem?_append_right (by omega),hl,Nat.sub_self]
  simp [hk]
 ·unfold partP
  rw [List.set_append_right _ _ (by omega),hl,Nat.sub_self,List.take_succ_eq_append_getElem hk,List.map_append,List.drop_eq_getElem_cons hk]
  simp only [List.set_cons_zero,List.map_cons,List.map_nil,List.append_assoc,List.singleton_append]
theorem partP_none (up:Bool) (L:List Pc):partP up 0 L=L:=by simp [partP]
theorem partP_all (up:Bool) (L:List Pc):partP up L.length L=L.map (flipP up):=by simp [partP]
theorem Row.stored {w:World} {base g cap:Nat} {l:List Pc} (h:Row w base g cap l) {k:Nat} (hk:k<l.length) (q:Pc):Row (w.setCells g (k*4) q.cells) base g cap (l.set k q):=by
 obtain ⟨cur,h2,h3,h4,h5,h6,h1⟩:=h.block
 have hlen:(pcs l).length=l.length*4:=pcs_length l
 have hq:q.cells.length=4:=rfl
 obtain ⟨cur1,e1,e2⟩:=heap_setCells_list g q.cells (k*4) w cur _ h2 (by rw [hq];omega)
 have s1:cur1.size=cap*4:=by
  have:=congrArg List.length e2
  simp [hq] at this
  omega
 refine Row.of_block h1 e1 (by simpa using h3) h4 s1 ?_
 have lt:(cur.toList.take (k*4)).length=k*4:=by rw [List.length_take];simp;omega
 have t1:(cur.toList.take (l.length*4)).take (k*4)=cur.toList.take (k*4):=by rw [List.take_take,Nat.min_eq_left (by omega)]
 have t2:(cur.toList.take (l.length*4)).drop (k*4+4)=(cur.toList.drop (k*4+4)).take (l.length*4-(k*4+4)):=List.drop_take ..
 have t3:(cur.toList.take (k*4)++q.cells).length=k*4+4:=by rw [List.length_append,lt,hq]
 rw [List.length_set,e2,pcs_set hk,←h6,hq,t1,t2,List.take_append,t3,List.take_of_length_le (i:=l.length*4) (by rw [t3];omega)]
def TurnRelP (up:Bool) (w:World) (base g m c:Nat) (L:List Pc) (i:Value) (wr:World):Prop :=
 ∃ k:Nat,k≤m∧i=.int .i64 (k:Int)∧Row wr w.heap.size g c (partP up k L)∧Below w.heap.size w wr
set_option maxHeartbeats 1000000 in
theorem pcTurn_any {w:World} {base D R:Nat} {l:List Pc} (h:Dp w base D R l) (hl0:0<l.length) (hl:l.length≤1000000) {U:Nat} {up:Bool} (hU:w.cell? ⟨U,0,none⟩=some (.bool up)) :
  Calls Tryz.prog 140 #[.pointer (some ⟨D,0,none⟩),.func (.func 137) #[] #[.pointer (some ⟨U,0,none⟩)]] w fun e w'=>e=.returned (.tuple #[])∧MadeP base w D R (l.reverse.map (flipP up)) w':=by
 have HL:=Lib.hid (pcList_any h hl0 hl);have HD:=Lib.hid h
 have hbase:base≤w.heap.size:=Nat.le_of_lt (Nat.lt_of_le_of_lt h.low h.ltD)
 obtain ⟨cap0,h1,_⟩:=h.row
 have H1:=Lib.hid h1;have HU:=Lib.hid hU;have HB0:=Lib.hid hbase
 clear h1 h hU hbase
 have q:=pcTurn_run U
 obtain ⟨L,hL⟩:∃ L,l.reverse=L:=⟨_,rfl⟩
 have hLl:L.length=l.length:=by rw [←hL];exact List.length_reverse
 rw [hL]
 go_enter Tryz.func140,Tryz.ntmps140
 go_wp2_with fail
 refine HL.out.mono ?_
 rintro e w1 ⟨g,c,rfl,hrow,hb⟩
 have HV:=Lib.hid (pcReverse_any hrow hl);have HB:=Lib.hid hb
 clear hrow hb HL
 go_wp2_with fail
 refine HV.out.mono ?_
 rintro e w2 ⟨rfl,hrow,hb⟩
 have hb2:Below w.heap.size w w2:=HB.out.trans hb
 rw [hL] at hrow
 have HR2:=Lib.hid hrow;have HB2:=Lib.hid hb2
 clear hrow hb hb2 HV HB
 clear hL
 generalize hmm:l.length=m at *
 have HLl:=Lib.hid hLl
 clear hmm hLl
 go_wp2
 go_loopw [17] (fun i wr=>TurnRelP up w base g m c L i wr) (fun i _=>m-(intOf i).toNat)
 case atStart=>exact ⟨0,by omega,by go_num,by rw [partP_none];exact HR2.out,HB2.out⟩
 case round =>
  obtain ⟨k,hk,rfl,hrow,hb⟩:=hrel
  by_cases hlt:k<m
  ·obtain ⟨x,hx⟩:∃ x,L[k]?=some x:=⟨L[k]'(by rw [HLl.out];exact hlt),List.getElem?_eq_getElem _⟩
   obtain ⟨p1,p2⟩:=partP_at (up:=up) hx
   obtain ⟨c0,c1,c2,c3⟩:=hrow.at.cells p1
   have HRr:=Lib.hid hrow;have HBr:=Lib.hid hb;have HP:=Lib.hid p2;have HC:=Lib.hid (hrow.at.cells p1)
   have z0:(0:Int)≤(k:Int):=by omega
   have z1:(k:Int)<(m:Int):=by omega
   have KO:=fun (w':World) (hb':Below wr.heap.size wr w')=>over_any (w:=w') (U:=U) (up:=up) (bl_cell hb' (bl_cell HBr.out HU.out)) x
   have hkl:k<(partP up k L).length:=by rw [partP_length,HLl.out];exact hlt
   obtain ⟨q,hq⟩:∃ q,flipP up x=q:=⟨_,rfl⟩
   rw [hq] at KO
   have HQ:=Lib.hid hq
   obtain ⟨xn,xx,xy⟩:=x
   obtain ⟨qn,qx,qy⟩:=q
   unfold Pc.val at KO
   dsimp only at KO c0 c1 c2 c3
   have HO:=Lib.hid KO
   clear hrow hb p1 p2 hx HR2 HB2 KO hq
   go_wp2_with fail
   refine (HO.out _ ?_).mono ?_
   ·repeat (first | with_reducible exact Below.refl _ _ | apply up_alloc | refine up_set ?_ (by simp) _)
   rintro e w3 ⟨rfl,hb3⟩
   have hbr:Below wr.heap.size wr w3:=up_trans (by repeat (first | with_reducible exact Below.refl _ _ | apply up_alloc | refine up_set ?_ (by simp) _)) hb3
   have hr3:=HRr.out.up hbr
   have f0:=hr3.free (k*4);have f1:=hr3.free (k*4+1);have f2:=hr3.free (k*4+2);have f3:=hr3.free (k*4+3)
   have d0:=bl_cell hbr c0;have d1:=bl_cell hbr c1;have d2:=bl_cell hbr c2;have d3:=bl_cell hbr c3
   have H3:=Lib.hid hr3;have HB3:=Lib.hid (HBr.out.trans (hbr.mono HBr.out.size))
   clear hb3 hbr hr3 c0 c1 c2 c3
   go_wp2
   go_roundw
   case rel =>
    refine ⟨k+1,by omega,by go_num,?_,?_⟩
    ·rw [HP.out]
     have:=H3.out.stored hkl (flipP up ⟨xn,xx,xy⟩)
     rw [HQ.out] at this ⊢
     exact this
    ·have hg:=H3.out.lt.1
     repeat (first | with_reducible exact HB3.out | (refine Below.setCell ?_ (by simpa using hg) _))
   case measure=>simp [intOf];omega
  ·obtain rfl:k=m:=by omega
   have e:partP up k L=L.map (flipP up):=by rw [←HLl.out];exact partP_all up L
   rw [e] at hrow
   have hD2:Boxed wr D 159 (.slice (some ⟨R,0,none⟩) k cap0):=(hb.block _ H1.out.lt).trans H1.out
   have b2:=hD2.cell;have f2:=hD2.frozen
   have HF:=Lib.hid (HD.out.put (But.of hb) hD2 (hrow.base base (Nat.le_trans HB0.out hrow.lt.1)) (.inr hrow.lt.1))
   rw [List.length_map,HLl.out] at HF
   clear hrow hb hD2 HR2 HB2 e
   go_wp2
   go_end0
   exact ⟨rfl,HF.out⟩
end Go.Proofs.YtbbjileignefbaaGreatDoor
namespace Go.Proofs.YtbbjileignefbaaGreatDoor
open Go.RowKit
section
variable {P:Program} {ops:Array Oper} {C:World→Prop}
def headAny (P:Program) (ops:Array Oper) (C:World→Prop) (n:Nat) (L:Array Bool→Act→Prop):Nat→Array Bool→Act→Prop
 | 0,s,a=>L s a
 | f+1,s,a=>Region.ready .any ops s≠[]∧∀ i∈Region.ready .any ops s,i<n∧qOp P ops C i (headAny P ops C n L f (s.setIfInBounds i true)) a
theorem headAny_wp {n g:Nat} {L:Array Bool→Act→Prop} {Q:Exit→Act→World→Prop} (hL:∀ s a w,C w→L s a→wpAny P .any ops Q g s a w) :
  ∀ (f:Nat) (s:Array Bool) (a:Act) (w:World),C w→headAny P ops C n L f s a→wpAny P .any ops Q (f+g) s a w:=by
 intro f
 induction f with
 | zero=>intro s a w hw h;rw [Nat.zero_add];exact hL _ _ _ hw h
 | succ f ih =>
  intro s a w hw h
  rw [show f+1+g=f+g+1 by omega]
  exact ⟨fun h0=>absurd h0 h.1,fun i hi=>wpOp_of_qOp hw (fun a' w' hw' h'=>ih _ a' w' hw' h') (h.2 i hi).2⟩
theorem headAny_swap {n i:Nat} {oi:Oper} {v:Value} {L:Array Bool→Act→Prop} (hi:ops[i]?=some oi) (hsel:∀ (j:Nat) (o:Oper) cs b,ops[j]?=some o→o.op≠.select cs b)
  (hs:Region.sinkB .any ops n=true) (hc:Region.chainB .any ops n=true) (hn:n<ops.size) (hin:i<n) (hdone:∀ s a,L s a→∀ j∈Region.ready .any ops s,n≤j) :
  ∀ (f:Nat) (s:Array Bool) (a:Act),HeadInv .any ops n s →
   (∀ j oj,ops[j]?=some oj→j≠i→s.getD j true=false→(∀ e∈oj.after,Region.binds .any e=true→e.on≠i)→oi.apart ops oj=true) →
   i∈Region.ready .any ops s→YieldsIn P ops C oi v a→headAny P ops C n L f (s.setIfInBounds i true) (a.put oi.dst v)→headAny P ops C n L (f+1) s a:=by
 intro f
 induction f with
 | zero =>
  intro s a inv _ hr hy H
  have inHead:∀ j∈Region.ready .any ops s,j<n:=fun j hj=>Nat.lt_of_not_le fun h=>tail_waits hs hc hn inv _ i rfl hin (mem_ready.1 hr).1 j h hj
  refine ⟨fun h=>(by rw [h] at hr;cases hr),fun j hj=>⟨inHead j hj,?_⟩⟩
  by_cases e:j=i
  ·subst e;exact hy.qOp hi H
  ·exact absurd (hdone _ _ H j (ready_mono hj e)) (by have:=inHead j hj;omega)
 | succ f ih =>
  intro s a inv free hr hy H
  have hun:=(mem_ready.1 hr).1
  have inHead:∀ j∈Region.ready .any ops s,j<n:=fun j hj=>Nat.lt_of_not_le fun h=>tail_waits hs hc hn inv _ i rfl hin hun j h hj
  refine ⟨fun h=>(by rw [h] at hr;cases hr),fun j hj=>⟨inHead j hj,?_⟩⟩
  by_cases e:j=i
  ·subst e;exact hy.qOp hi H
  ·obtain ⟨ju,oj,ho,before⟩:=mem_ready.1 hj
   have waits:∀ x∈oj.after,Region.binds .any x=true→x.on≠i:=fun x hx hb he=>by
    have:=before x hx hb
    rw [he,getD_both hun] at this
    cases this
   refine qOp_mono (fun a' h'=>ih (s.setIfInBounds j true) a' (inv.set hj (inHead j hj)) (fun k ok hk ki hu no=>free k ok hk ki ?_ no) (ready_mono hr (Ne.symm e)) h'.1 ?_)
    (qOp_put ho (free j oj ho e ju waits) (fun cs b=>hsel i oi cs b hi) (fun cs b=>hsel j oj cs b ho) hy (H.2 j (ready_mono hj e)).2)
   ·by_cases jk:j=k
    ·subst jk;exact ju
    ·rwa [getD_set_ne true jk] at hu
   ·rw [Array.setIfInBounds_comm _ _ e];exact h'.2
theorem headAny_lex {n g:Nat} {K:Act→Prop} (hsel:Region.noSelect ops=true) (hs:Region.sinkB .any ops n=true) (hc:Region.chainB .any ops n=true) (hn:n<ops.size) :
  ∀ (l:List Oper) (k:Nat) (s:Array Bool) (a:Act),(∀ j,j<l.length→l[j]?=ops[k+j]?)→k+l.length=n→HeadInv .any ops n s→Region.lexHead .any ops g l.length k s=true→wpQuiet P ops C K l a →
  headAny P ops C n (fun s' a'=>Region.seqB .any ops g n s'=true∧K a') l.length s a:=by
 intro l
 induction l with
 | nil =>
  intro k s a _ hk _ hB h
  obtain rfl:k=n:=by simpa using hk
  exact ⟨by simpa [Region.lexHead] using hB,h⟩
 | cons o l ih =>
  intro k s a hl hk inv hB h
  have h0:ops[k]?=some o:=by simpa using (hl 0 (by simp)).symm
  simp only [List.length_cons,Region.lexHead,Bool.and_eq_true] at hB
  simp only [List.length_cons] at hk
  have hr:k∈Region.ready .any ops s:=by simpa using hB.1.1
  obtain ⟨v,hy,hK⟩:=yieldsIn_of_qOp (K:=wpQuiet P ops C K l) h0 (by unfold qOp;simp only [h0];exact h)
  exact headAny_swap h0 (Region.noSelect_spec hsel) hs hc hn (by omega) (fun s' a' h'=>seqB_ready h'.1) l.length s a inv (Region.free_spec h0 hB.1.2) hr hy
   (ih (k+1) _ _ (fun j hj=>by have:=hl (j+1) (by simp;omega);simpa [Nat.add_assoc,Nat.add_comm 1 j] using this) (by omega) (inv.set hr (by omega)) hB.2 hK)
end
theorem wp_region_head_tail {P:Program} {id:Nat} {C:World→Prop} {Q:Exit→Act→World→Prop} {a:Act} {w:World} {l:List Oper} (n:Nat) (hm:P.follows .mixedOrders=true) (hB:Region.lexTailB .any l.toArray n=true)
  (hC:C w.drew) (h:wpQuiet P l.toArray C (fun a'=>∀ w',C w'→wpList P l.toArray Q (l.drop n) a' w') (l.take n) a):(Code.region id l.toArray true).wp P Q a w:=by
 simp only [Region.lexTailB,Bool.and_eq_true,decide_eq_true_eq] at hB
 obtain ⟨⟨⟨⟨hsel,hn⟩,hs⟩,hc⟩,hlex⟩:=hB
 have hn':n<l.length:=by simpa using hn
 have tl:(l.take n).length=n:=by simp;omega
 have dl:(l.drop n).length=l.toArray.size-n:=by simp
 have H:=headAny_lex (P:=P) (C:=C) (g:=l.toArray.size-n) hsel hs hc hn (l.take n) 0 (Array.replicate l.toArray.size false) a
  (fun j hj=>by rw [tl] at hj;simp [hj]) (by rw [tl];omega)
  ⟨by simp,fun j oj _ hj=>(by rw [getD_replicate_false] at hj;cases hj),fun t _ ht=>getD_in (by simpa using ht) (getD_replicate_false _ _)⟩ (by rw [tl];exact hlex) h
 have G:=headAny_wp (Q:=Q) (g:=l.toArray.size-n) (fun s a' w' hw' hL=>by
  have:=wpAny_of_seq (md:=.any) (Q':=Q) (l.drop n) n s a' w' (fun j=>by simp [List.getElem?_drop]) (by rw [dl];exact hL.1) (hL.2 w' hw')
  rwa [dl] at this) _ _ _ w.drew hC H
 rw [tl,show n+(l.toArray.size-n)=l.toArray.size by omega] at G
 exact wp_region_any hm G
theorem wp_region_later_tail {P:Program} {id:Nat} {Q:Exit→Act→World→Prop} {a:Act} {w:World} {u:Later w} {l:List Oper} (n:Nat) (hm:P.follows .mixedOrders=true) (hB:Region.lexTailB .any l.toArray n=true)
  (h:wpQuiet P l.toArray (fun w'=>∃ u:Later w,w'=u.now) (fun a'=>∀ w',(∃ u:Later w,w'=u.now)→wpList P l.toArray Q (l.drop n) a' w') (l.take n) a):(Code.region id l.toArray true).wp P Q a u.now :=
 wp_region_head_tail n hm hB ⟨⟨_,up_drew u.up⟩,rfl⟩ h
end Go.Proofs.YtbbjileignefbaaGreatDoor
namespace Go.Proofs.YtbbjileignefbaaGreatDoor
open Go.RowKit
def hasB (c r col row:Int):Bool:=decide (0≤col)&&decide (col<c)&&(decide (0≤row)&&decide (row<r))
theorem isSide_any (n:Int) (w:World) :
  Calls Tryz.prog 153 #[.int .i64 n] w fun e w'=>e=.returned (.bool (inB n 1 64))∧w'=w:=by
 by_cases h1:1≤n<;>by_cases h2:n≤64
 all_goals
  go_enter Tryz.func153,Tryz.ntmps153
  go_wp2
  go_ret
  exact ⟨by simp [inB,h1,h2],rfl⟩
theorem Bx.upne {w w':World} {B:Nat} {vs:List Value} (h:Bx w B vs) (hne:0<vs.length) (hb:Below w.heap.size w w'):Bx w' B vs:=by
 cases vs with
 | nil=>simp at hne
 | cons v0 vs=>exact h.up hb
theorem Bx.ltne {w:World} {B:Nat} {vs:List Value} (h:Bx w B vs) (hne:0<vs.length):B<w.heap.size:=by
 cases vs with
 | nil=>simp at hne
 | cons v0 vs=>exact h.lt
theorem Bx.kept {w w':World} {B:Nat} {vs:List Value} (h:Bx w B vs) (hne:0<vs.length) {row:Option Nat} (hg:w.grownBy w' row) (hr:some B≠row):Bx w' B vs :=
 have e:=hg.block B (h.ltne hne) hr
 ⟨fun j v hj=>(World.cell?_of_block (a:=⟨B,j,none⟩) e).trans (h.1 j v hj),fun j=>(World.frozen?_of_block (a:=⟨B,j,none⟩) e).trans (h.2 j)⟩
def at1 (c col row:Int):Nat:=(row*c+col).toNat
theorem at1_lt {c r col row:Int} (h:hasB c r col row=true):0≤row*c+col∧row*c+col<c*r∧0≤row*c:=by
 simp [hasB] at h
 obtain ⟨⟨h1,h2⟩,h3,h4⟩:=h
 have a:0≤row*c:=Int.mul_nonneg h3 (by omega)
 have b:(row+1)*c≤r*c:=Int.mul_le_mul_of_nonneg_right (by omega) (by omega)
 rw [Int.add_mul,Int.one_mul] at b
 rw [Int.mul_comm c r]
 omega
theorem grown_of_below {w w':World} (h:Below w.heap.size w w') (A:Nat) (k:Nat) (v:Value):w.grownBy (w'.setCell ⟨A,k,none⟩ v) (some A) :=
 ⟨h.os,h.tape,h.output,by have:=h.size;simpa [World.setCell] using this,fun j hj hne=>(Below.heap_setCell _ _ _ _ (fun e=>hne (by rw [e]))).trans (h.block j hj)⟩
theorem grown_refl (w:World) (row:Option Nat):w.grownBy w row:=⟨rfl,rfl,rfl,Nat.le_refl _,fun _ _ _=>rfl⟩
def fitB (f n side:Int):Bool:=decide (0≤f)&&(decide (1≤n)&&decide (f≤side-n))
theorem fits_any (f n side:Int) (hs:0≤side) (hs2:side≤64) (hn:n≤9223372036854775807) (w:World) :
  Calls Tryz.prog 165 #[.int .i64 f,.int .i64 n,.int .i64 side] w fun e w'=>e=.returned (.bool (fitB f n side))∧w'=w:=by
 by_cases h1:0≤f
 ·by_cases h2:1≤n
  ·have wn:IntKind.i64.wrap (side-n)=side-n:=IntWalk.i64_in _ (by omega)
   by_cases h3:f≤side-n
   all_goals
    go_enter Tryz.func165,Tryz.ntmps165
    go_wp2
    go_ret
    exact ⟨by simp [fitB];omega,rfl⟩
  ·go_enter Tryz.func165,Tryz.ntmps165
   go_wp2
   go_ret
   exact ⟨by simp [fitB];omega,rfl⟩
 ·go_enter Tryz.func165,Tryz.ntmps165
  go_wp2
  go_ret
  exact ⟨by simp [fitB];omega,rfl⟩
theorem calls_b {f:FuncId} {args:Array Value} {w:World} {v:Value} (h:Calls Tryz.prog f args w fun e w'=>e=.returned v∧w'=w):Calls Tryz.prog f args w fun e w'=>e=.returned v∧Below w.heap.size w w' :=
 h.mono fun e w' ⟨he,hw⟩=>⟨he,by rw [hw];exact Below.refl _ _⟩
theorem fit_in {f n side:Int} (h:fitB f n side=true) (hs:side≤64):inB n 1 64=true∧0≤f∧f+n≤side:=by
 simp [fitB] at h
 exact ⟨by simp [inB];omega,by omega,by omega⟩
theorem Tryz.infoPtr:(Tryz.prog.info? 138).map (fun i=>(i.zero,i.size,i.bytes))=some (some (.pointer none),1,8):=by kernel_rfl
abbrev Ptr:=Option Addr
def encS (l:List Ptr):List Value:=l.map Value.pointer
structure Gs (w:World) (G A:Nat) (c r:Int) (l:List Ptr):Prop where
 box:Bx w G [.int .i64 c,.int .i64 r,.slice (some ⟨A,0,none⟩) l.length l.length]
 row:Bx w A (encS l)
 c1:1≤c
 c64:c≤64
 r1:1≤r
 r64:r≤64
 len:(l.length:Int)=c*r
 ne:G≠A
theorem Gs.pos {w:World} {G A:Nat} {c r:Int} {l:List Ptr} (h:Gs w G A c r l):0<l.length:=by
 have h1:=Int.mul_pos (by have:=h.c1;omega:0<c) (by have:=h.r1;omega:0<r)
 have h2:=h.len
 omega
theorem Gs.le {w:World} {G A:Nat} {c r:Int} {l:List Ptr} (h:Gs w G A c r l):l.length≤4096:=by
 have h1:c*r≤64*64:=Int.mul_le_mul h.c64 h.r64 (by have:=h.r1;omega) (by omega)
 have h2:=h.len
 omega
theorem encS_pos {l:List Ptr} (h:0<l.length):0<(encS l).length:=by simpa [encS] using h
theorem Gs.up {w w':World} {G A:Nat} {c r:Int} {l:List Ptr} (h:Gs w G A c r l) (hb:Below w.heap.size w w'):Gs w' G A c r l :=
 ⟨h.box.up hb,h.row.upne (encS_pos h.pos) hb,h.c1,h.c64,h.r1,h.r64,h.len,h.ne⟩
theorem Gs.ltG {w:World} {G A:Nat} {c r:Int} {l:List Ptr} (h:Gs w G A c r l):G<w.heap.size:=h.box.lt
theorem Gs.ltA {w:World} {G A:Nat} {c r:Int} {l:List Ptr} (h:Gs w G A c r l):A<w.heap.size:=h.row.ltne (encS_pos h.pos)
theorem Gs.cell {w:World} {G A:Nat} {c r:Int} {l:List Ptr} (h:Gs w G A c r l) (k:Nat) (x:Ptr) (hx:l[k]?=some x):w.cell? ⟨A,k,none⟩=some (.pointer x):=h.row.cell k (by simp [encS,hx])
theorem Gs.kept {w w':World} {G A:Nat} {c r:Int} {l:List Ptr} (h:Gs w G A c r l) {row:Option Nat} (hg:w.grownBy w' row) (h1:some G≠row) (h2:some A≠row):Gs w' G A c r l :=
 ⟨h.box.kept (by simp) hg h1,h.row.kept (encS_pos h.pos) hg h2,h.c1,h.c64,h.r1,h.r64,h.len,h.ne⟩
theorem shCols_any {w:World} {G A:Nat} {c r:Int} {l:List Ptr} (h:Gs w G A c r l) :
  Calls Tryz.prog 156 #[.pointer (some ⟨G,0,none⟩)] w fun e w'=>e=.returned (.int .i64 c)∧w'=w:=by
 have b0:=h.box.cell 0 rfl
 clear h
 go_enter Tryz.func156,Tryz.ntmps156
 go_wp2
 go_ret
 exact ⟨rfl,rfl⟩
theorem shRows_any {w:World} {G A:Nat} {c r:Int} {l:List Ptr} (h:Gs w G A c r l) :
  Calls Tryz.prog 157 #[.pointer (some ⟨G,0,none⟩)] w fun e w'=>e=.returned (.int .i64 r)∧w'=w:=by
 have b0:=h.box.cell 1 rfl
 clear h
 go_enter Tryz.func157,Tryz.ntmps157
 go_wp2
 go_ret
 exact ⟨rfl,rfl⟩
theorem shHas_core (p:Value) (c r col row:Int) (w:World) (KC:Calls Tryz.prog 156 #[p] w fun e w'=>e=.returned (.int .i64 c)∧w'=w) (KR:Calls Tryz.prog 157 #[p] w fun e w'=>e=.returned (.int .i64 r)∧w'=w) :
  Calls Tryz.prog 143 #[p,.int .i64 col,.int .i64 row] w fun e w'=>e=.returned (.bool (hasB c r col row))∧w'=w:=by
 have HC:=Lib.hid KC;have HR:=Lib.hid KR
 clear KC KR
 by_cases h1:0≤col
 ·by_cases h2:col<c
  ·by_cases h3:0≤row
   ·by_cases h4:row<r
    all_goals
     go_enter Tryz.func143,Tryz.ntmps143
     go_wp2_with (first | (go_at_call 156;refine HC.out.mono ?_;rintro e w' ⟨rfl,rfl⟩) | (go_at_call 157;refine HR.out.mono ?_;rintro e w' ⟨rfl,rfl⟩))
     go_ret
     exact ⟨by simp [hasB,h1,h2,h3,h4],rfl⟩
   ·go_enter Tryz.func143,Tryz.ntmps143
    go_wp2_with (go_at_call 156;refine HC.out.mono ?_;rintro e w' ⟨rfl,rfl⟩)
    go_ret
    exact ⟨by simp [hasB];omega,rfl⟩
  ·go_enter Tryz.func143,Tryz.ntmps143
   go_wp2_with (go_at_call 156;refine HC.out.mono ?_;rintro e w' ⟨rfl,rfl⟩)
   go_ret
   exact ⟨by simp [hasB];omega,rfl⟩
 ·go_enter Tryz.func143,Tryz.ntmps143
  go_wp2
  go_ret
  exact ⟨by simp [hasB];omega,rfl⟩
theorem shHas_any {w:World} {G A:Nat} {c r:Int} {l:List Ptr} (h:Gs w G A c r l) (col row:Int) :
  Calls Tryz.prog 143 #[.pointer (some ⟨G,0,none⟩),.int .i64 col,.int .i64 row] w fun e w'=>e=.returned (.bool (hasB c r col row))∧w'=w :=
 shHas_core _ c r col row w (shCols_any h) (shRows_any h)
theorem Gs.at1_lt {w:World} {G A:Nat} {c r:Int} {l:List Ptr} (h:Gs w G A c r l) {col row:Int} (hh:hasB c r col row=true):at1 c col row<l.length:=by
 have:=Go.Proofs.YtbbjileignefbaaGreatDoor.at1_lt hh
 have:=h.len
 unfold at1
 omega
set_option maxHeartbeats 1000000 in
theorem shAt_yes {w:World} {G A:Nat} {c r:Int} {l:List Ptr} (h:Gs w G A c r l) (col row:Int) (x:Ptr) (hh:hasB c r col row=true) (hx:l[at1 c col row]?=some x) :
  Calls Tryz.prog 121 #[.pointer (some ⟨G,0,none⟩),.int .i64 col,.int .i64 row] w fun e w'=>e=.returned (.tuple #[.pointer x,.bool true])∧Below w.heap.size w w':=by
 have KH:=shHas_any h col row
 rw [hh] at KH
 obtain ⟨g0,g1,g2⟩:=Go.Proofs.YtbbjileignefbaaGreatDoor.at1_lt hh
 have gl:=h.len
 have gm:=h.le
 have b0:=fun u:Later w=>u.cell (h.box.cell 0 rfl)
 have b2:=fun u:Later w=>u.cell (h.box.cell 2 rfl)
 have bx:=h.cell _ x hx
 unfold at1 at bx
 generalize hm:row*c=m at *
 generalize hs:m+col=s at *
 generalize l.length=n at *
 obtain ⟨k,hk⟩:∃ k:Nat,s=(k:Int):=⟨s.toNat,by omega⟩
 subst hk
 simp only [Int.toNat_natCast] at bx
 have bk:=fun u:Later w=>u.cell bx
 have z0:(0:Int)≤(k:Int):=by omega
 have z1:(k:Int)<(n:Int):=by omega
 have wm:IntKind.i64.wrap (row*c)=m:=by rw [hm];exact IntWalk.i64_in _ (by simp [hasB] at hh;omega)
 have ws:IntKind.i64.wrap (m+col)=(k:Int):=by rw [hs];exact IntWalk.i64_in _ (by omega)
 have HK:=Lib.hid KH
 clear KH h hh hx gl gm hm hs g0 g1 g2 bx
 go_enter Tryz.func121,Tryz.ntmps121
 go_wp2_with (go_at_call 143;refine HK.out.mono ?_;rintro e w' ⟨rfl,rfl⟩)
 refine later_start (w:=w') ?_
 intro u
 refine wp_region_later (by kernel_rfl) (by kernel_rfl) ?_
 repeat (go_big_quiet_step (fail))
 refine wpQuiet_nil ?_
 rintro _ ⟨u2,rfl⟩
 clear b0 b2 bk
 go_wp2
 exact bodyPost_ret (v:=.tuple #[.pointer x,.bool true]) (by simp [results,Tryz.results121,go_sem]) rfl ⟨rfl,u2.up⟩
def setS (c r:Int) (l:List Ptr) (col row:Int) (x:Ptr):List Ptr:=if hasB c r col row=true then l.set (at1 c col row) x else l
theorem Bx.stored {w w':World} {B:Nat} {l:List Ptr} (h:Bx w B (encS l)) (hb:Below w.heap.size w w') (hne:0<l.length) (k:Nat) (x:Ptr):Bx (w'.setCell ⟨B,k,none⟩ (.pointer x)) B (encS (l.set k x)):=by
 have:=(h.upne (encS_pos hne) hb).set k (.pointer x)
 simpa [encS,List.map_set] using this
theorem Gs.stored {w w':World} {G A:Nat} {c r:Int} {l:List Ptr} (h:Gs w G A c r l) (hb:Below w.heap.size w w') (k:Nat) (x:Ptr):Gs (w'.setCell ⟨A,k,none⟩ (.pointer x)) G A c r (l.set k x):=by
 refine ⟨?_,h.row.stored hb h.pos k x,h.c1,h.c64,h.r1,h.r64,by rw [List.length_set];exact h.len,h.ne⟩
 rw [List.length_set]
 exact (h.box.up hb).far (fun e=>h.ne e.symm) _
set_option maxHeartbeats 1000000 in
theorem shSet_yes {w:World} {G A:Nat} {c r:Int} {l:List Ptr} (h:Gs w G A c r l) (col row:Int) (x:Ptr) (hh:hasB c r col row=true) :
  Calls Tryz.prog 135 #[.pointer (some ⟨G,0,none⟩),.int .i64 col,.int .i64 row,.pointer x] w fun e w'=>e=.returned (.bool true)∧Gs w' G A c r (l.set (at1 c col row) x)∧w.grownBy w' (some A):=by
 have KH:=shHas_any h col row
 rw [hh] at KH
 obtain ⟨g0,g1,g2⟩:=Go.Proofs.YtbbjileignefbaaGreatDoor.at1_lt hh
 have gl:=h.len
 have gm:=h.le
 have hlt:=h.at1_lt hh
 have b0:=fun u:Later w=>u.cell (h.box.cell 0 rfl)
 have b2:=fun u:Later w=>u.cell (h.box.cell 2 rfl)
 have bx:=h.cell _ _ (List.getElem?_eq_getElem hlt)
 generalize l[at1 c col row]=y at bx
 have bf:=h.row.free (at1 c col row)
 have hA:=h.ltA
 have HG:=Lib.hid h
 clear h
 unfold at1 at *
 generalize hm:row*c=m at *
 generalize hs:m+col=s at *
 generalize l.length=n at *
 obtain ⟨k,hk⟩:∃ k:Nat,s=(k:Int):=⟨s.toNat,by omega⟩
 subst hk
 simp only [Int.toNat_natCast] at bx bf HG ⊢
 have bk:=fun u:Later w=>u.cell bx
 have bz:=fun u:Later w=>(kept_marks u.up A k hA).trans bf
 have z0:(0:Int)≤(k:Int):=by omega
 have z1:(k:Int)<(n:Int):=by omega
 have wm:IntKind.i64.wrap (row*c)=m:=by rw [hm];exact IntWalk.i64_in _ (by simp [hasB] at hh;omega)
 have ws:IntKind.i64.wrap (m+col)=(k:Int):=by rw [hs];exact IntWalk.i64_in _ (by omega)
 have HK:=Lib.hid KH
 clear KH hh gl gm hm hs g0 g1 g2 bx bf hA hlt
 go_enter Tryz.func135,Tryz.ntmps135
 go_wp2_with (go_at_call 143;refine HK.out.mono ?_;rintro e w' ⟨rfl,rfl⟩)
 refine later_start (w:=w') ?_
 intro u
 refine wp_region_later_tail 14 (by kernel_rfl) (by kernel_rfl) ?_
 simp only [List.take_succ_cons,List.take_zero,List.drop_succ_cons,List.drop_zero]
 repeat (go_big_quiet_step (fail))
 refine wpQuiet_nil ?_
 rintro _ ⟨u2,rfl⟩
 have y0:=bk u2
 have y1:=bz u2
 clear b0 b2 bk bz
 go_wp2
 go_ret
 exact ⟨rfl,HG.out.stored u2.up k x,grown_of_below u2.up A k _⟩
theorem shSet_no (p:Value) (col row:Int) (x:Ptr) (w:World) (KH:Calls Tryz.prog 143 #[p,.int .i64 col,.int .i64 row] w fun e w'=>e=.returned (.bool false)∧w'=w) :
  Calls Tryz.prog 135 #[p,.int .i64 col,.int .i64 row,.pointer x] w fun e w'=>e=.returned (.bool false)∧w'=w:=by
 have HK:=Lib.hid KH
 clear KH
 go_enter Tryz.func135,Tryz.ntmps135
 go_wp2_with (go_at_call 143;refine HK.out.mono ?_;rintro e w' ⟨rfl,rfl⟩)
 go_ret
 exact ⟨rfl,rfl⟩
theorem shSet_any {w:World} {G A:Nat} {c r:Int} {l:List Ptr} (h:Gs w G A c r l) (col row:Int) (x:Ptr) :
  Calls Tryz.prog 135 #[.pointer (some ⟨G,0,none⟩),.int .i64 col,.int .i64 row,.pointer x] w fun e w'=>e=.returned (.bool (hasB c r col row))∧Gs w' G A c r (setS c r l col row x)∧w.grownBy w' (some A):=by
 cases hh:hasB c r col row
 ·refine (shSet_no _ col row x w (by have:=shHas_any h col row;rwa [hh] at this)).mono ?_
  rintro e w' ⟨rfl,rfl⟩
  exact ⟨rfl,by simpa [setS,hh] using h,grown_refl _ _⟩
 ·refine (shSet_yes h col row x hh).mono ?_
  rintro e w' ⟨rfl,h1,h2⟩
  exact ⟨rfl,by simpa [setS,hh] using h1,h2⟩
theorem madeS_encS (n:Nat):madeCells (Value.cells (.pointer none)) n=(encS (List.replicate n none)).toArray:=by
 apply Array.ext
 ·simp [madeCells,encS]
 ·intro i h1 h2
  simp [madeCells,encS,Value.cells,Nat.mod_one]
set_option maxHeartbeats 1000000 in
theorem shNew_yes (c r:Int) (hc:inB c 1 64=true) (hr:inB r 1 64=true) (w:World) :
  Calls Tryz.prog 133 #[.int .i64 c,.int .i64 r] w fun e w'=>e=.returned (.pointer (some ⟨w.heap.size+1,0,none⟩))∧Gs w' (w.heap.size+1) w.heap.size c r (List.replicate (c*r).toNat none)∧Below w.heap.size w w':=by
 have KC:=isSide_any c
 have KR:=isSide_any r
 rw [hc] at KC
 rw [hr] at KR
 have HC:=Lib.hid KC;have HR:=Lib.hid KR
 clear KC KR
 obtain ⟨i0,hi,hz0,hz1,hz2⟩:=info_parts Tryz.infoPtr
 have hc':1≤c∧c≤64:=by simpa [inB] using hc
 have hr':1≤r∧r≤64:=by simpa [inB] using hr
 have h1:0<c*r:=Int.mul_pos (by omega) (by omega)
 have h2:c*r≤64*64:=Int.mul_le_mul hc'.2 hr'.2 (by omega) (by omega)
 clear hc hr
 obtain ⟨n,hn⟩:∃ n:Nat,c*r=(n:Int):=⟨(c*r).toNat,by omega⟩
 have HN:=Lib.hid hn
 rw [hn] at h1 h2 ⊢
 have wn:IntKind.i64.wrap (c*r)=(n:Int):=by rw [hn];exact IntWalk.i64_in _ (by omega)
 have mk:∀ w:World,(Instr.makeSlice 174 (.int .i64 (n:Int)) (.int .i64 (n:Int))).run Tryz.prog w=.ok (.slice (some ⟨w.heap.size,0,none⟩) n n) (w.alloc (.cells (encS (List.replicate n none)).toArray 138)):=by
  intro w
  have:=run_make (P:=Tryz.prog) w 174 138 i0 (.pointer none) Tryz.underlying174 hi hz0 .i64 .i64 (n:Int) (n:Int) (by omega) (Int.le_refl _) (by rw [hz2];omega) (by omega)
  rw [hz1,Int.toNat_natCast,Nat.mul_one,madeS_encS] at this
  exact this
 clear hn
 go_enter Tryz.func133,Tryz.ntmps133
 go_wp2_with (go_at_call 153;refine (HC.out _).mono ?_;clear HC;rintro e w' ⟨rfl,rfl⟩)
 refine (HR.out _).mono ?_
 rintro e w' ⟨rfl,rfl⟩
 go_wp2
 go_ret
 refine ⟨rfl,?_,?_⟩
 ·refine ⟨?_,?_,hc'.1,hc'.2,hr'.1,hr'.2,?_,by omega⟩
  ·have h:=Bx.new (w'.alloc (.cells (encS (List.replicate n none)).toArray 138)) 176 [.int .i64 c,.int .i64 r,.slice (some ⟨w'.heap.size,0,none⟩) n n]
   simpa using h
  ·exact (Bx.new w' 138 (encS (List.replicate n none))).upne (encS_pos (by simp;omega)) (up_alloc (Below.refl _ _) _)
  ·simp;exact HN.out.symm
 ·exact up_alloc (up_alloc (Below.refl _ _) _) _
theorem shAll_any (p:Option Addr) (w:World) :
  Calls Tryz.prog 134 #[.pointer p] w fun e w'=>e=.returned (.func (.func 154) #[] #[.pointer (some ⟨w.heap.size,0,none⟩)])∧w'=w.alloc (.cells #[.pointer p] 152):=by
 go_enter Tryz.func134,Tryz.ntmps134
 go_wp2
 go_ret
 exact ⟨rfl,rfl⟩
end Go.Proofs.YtbbjileignefbaaGreatDoor
namespace Go.Proofs.YtbbjileignefbaaGreatDoor
open Go.RowKit
theorem uponIn_of_upon {l n:Nat} {P:Program} {o:Oper} {a:Act} {K K':Act→World→Prop} {Q:Exit→Act→World→Prop} (hK:∀ a w,K a w→K' a w):∀ (r:Result Next),o.upon P a K Q r→o.uponIn (Fence.wide.inRound l) n P a K' Q r:=by
 intro r h
 cases r with
 | ok x w' =>
  cases x with
  | value v=>exact hK _ _ h
  | skip=>exact hK _ _ h
  | defer d=>exact hK _ _ h
  | enter f args =>
   refine ⟨fun h=>by simp [Fence.wide] at h,?_⟩
   refine CallsIn.inRound l (callsIn_wide.2 (Calls.mono h ?_))
   intro e w'' he
   cases e with
   | returned v=>exact hK _ _ he
   | panicked chain=>exact he
   | outgrown=>exact he
  | row row args =>
   refine ⟨fun h=>by simp [Fence.wide] at h,?_⟩
   intro c cs _
   obtain ⟨v,w'',hr,hs⟩:=h c cs
   exact ⟨v,w'',hK _ _ hr,stepsIn_wide.2 hs⟩
  | _=>exact h.elim
 | halt x w' =>
  cases x with
  | panic v=>exact h
  | _=>exact h.elim
section
variable {l n:Nat} {P:Program} {ops:Array Oper} {Q:Exit→Act→World→Prop}
def noDefer (ops:List Oper):Bool:=ops.all fun o=>match o.op with
 | .defer _=>false
 | _=>true
theorem noDefer_spec {l:List Oper} (h:noDefer l=true):∀ (i:Nat) (o:Oper),l.toArray[i]?=some o→∀ c,o.op≠.defer c:=by
 intro i o ho c e
 have hm:o∈l:=by
  have:l[i]?=some o:=by simpa using ho
  exact List.mem_of_getElem? this
 have:=List.all_eq_true.1 h o hm
 rw [e] at this
 cases this
theorem wpOpIn_of_op {i:Nat} {K K':Act→World→Prop} {a:Act} {w:World} (hnd:∀ (i:Nat) (o:Oper),ops[i]?=some o→∀ c,o.op≠.defer c) (hL:¬ LetsOut Q) (hK:∀ a w,K a w→K' a w)
  (h:wpOp P ops Q i K a w):wpOpIn (Fence.wide.inRound l) n P ops Q i K' a w:=by
 unfold wpOp at h
 unfold wpOpIn
 cases ho:ops[i]? with
 | none=>simp only [ho] at h ⊢;exact hK _ _ h
 | some o =>
  simp only [ho] at h ⊢
  split
  ·rename_i hw
   rw [if_pos hw] at h
   rcases h with h | ⟨_,h⟩
   ·refine ⟨fun _ _=>trivial,?_⟩
    rw [Oper.semAt_eq _ _ _ (hnd i o ho)]
    exact uponIn_of_upon hK _ h
   ·exact absurd h hL
  ·rename_i hw
   rw [if_neg hw] at h
   exact ⟨fun _ _=>trivial,hK _ _ h⟩
theorem wpAnyIn_of_any (hnd:∀ (i:Nat) (o:Oper),ops[i]?=some o→∀ c,o.op≠.defer c) (hL:¬ LetsOut Q):∀ (f:Nat) (s:Array Bool) (a:Act) (w:World),wpAny P .any ops Q f s a w→wpAnyIn (Fence.wide.inRound l) n P .any ops Q f s a w:=by
 intro f
 induction f with
 | zero=>intro s a w h;exact h
 | succ f ih=>intro s a w h;exact ⟨h.1,fun i hi=>wpOpIn_of_op hnd hL (fun a w h=>ih _ a w h) (h.2 i hi)⟩
end
theorem round_tail {m k:Nat} {P:Program} {id:Nat} {Q:Exit→Act→World→Prop} {a:Act} {w:World} {u:Later w} {l:List Oper} (n:Nat) (hm:P.follows .mixedOrders=true) (hB:Region.lexTailB .any l.toArray n=true) (hnd:noDefer l=true) (hL:¬ LetsOut Q)
  (h:wpQuiet P l.toArray (fun w'=>∃ u:Later w,w'=u.now) (fun a'=>∀ w',(∃ u:Later w,w'=u.now)→wpList P l.toArray Q (l.drop n) a' w') (l.take n) a):(Code.region id l.toArray true).wpIn (Fence.wide.inRound m) k P Q a u.now:=by
 simp only [Region.lexTailB,Bool.and_eq_true,decide_eq_true_eq] at hB
 obtain ⟨⟨⟨⟨hsel,hn⟩,hs⟩,hc⟩,hlex⟩:=hB
 have hn':n<l.length:=by simpa using hn
 have tl:(l.take n).length=n:=by simp;omega
 have dl:(l.drop n).length=l.toArray.size-n:=by simp
 have H:=headAny_lex (P:=P) (C:=fun w'=>∃ u:Later w,w'=u.now) (g:=l.toArray.size-n) hsel hs hc hn (l.take n) 0 (Array.replicate l.toArray.size false) a
  (fun j hj=>by rw [tl] at hj;simp [hj]) (by rw [tl];omega)
  ⟨by simp,fun j oj _ hj=>(by rw [getD_replicate_false] at hj;cases hj),fun t _ ht=>getD_in (by simpa using ht) (getD_replicate_false _ _)⟩ (by rw [tl];exact hlex) h
 have G:=headAny_wp (Q:=Q) (g:=l.toArray.size-n) (fun s a' w' hw' hL=>by
  have:=wpAny_of_seq (md:=.any) (Q':=Q) (l.drop n) n s a' w' (fun j=>by simp [List.getElem?_drop]) (by rw [dl];exact hL.1) (hL.2 w' hw')
  rwa [dl] at this) _ _ _ u.now.drew ⟨⟨_,up_drew u.up⟩,rfl⟩ H
 rw [tl,show n+(l.toArray.size-n)=l.toArray.size by omega] at G
 exact wpIn_region_any hm (wpAnyIn_of_any (noDefer_spec hnd) hL _ _ _ _ G)
section
variable {n:Nat} {P:Program} {ops:Array Oper} {Q:Exit→Act→World→Prop}
theorem upon_wide {n:Nat} {P:Program} {o:Oper} {a:Act} {K K':Act→World→Prop} {Q:Exit→Act→World→Prop} (hK:∀ a w,K a w→K' a w):∀ (r:Result Next),o.upon P a K Q r→o.uponIn Fence.wide n P a K' Q r:=by
 intro r h
 cases r with
 | ok x w' =>
  cases x with
  | value v=>exact hK _ _ h
  | skip=>exact hK _ _ h
  | defer d=>exact hK _ _ h
  | enter f args =>
   refine ⟨fun h=>by simp [Fence.wide] at h,?_⟩
   refine callsIn_wide.2 (Calls.mono h ?_)
   intro e w'' he
   cases e with
   | returned v=>exact hK _ _ he
   | panicked chain=>exact he
   | outgrown=>exact he
  | row row args =>
   refine ⟨fun h=>by simp [Fence.wide] at h,?_⟩
   intro c cs _
   obtain ⟨v,w'',hr,hs⟩:=h c cs
   exact ⟨v,w'',hK _ _ hr,stepsIn_wide.2 hs⟩
  | _=>exact h.elim
 | halt x w' =>
  cases x with
  | panic v=>exact h
  | _=>exact h.elim
theorem wideOp_of_op {i:Nat} {K K':Act→World→Prop} {a:Act} {w:World} (hL:¬ LetsOut Q) (hK:∀ a w,K a w→K' a w)
  (h:wpOp P ops Q i K a w):wpOpIn Fence.wide n P ops Q i K' a w:=by
 unfold wpOp at h
 unfold wpOpIn
 cases ho:ops[i]? with
 | none=>simp only [ho] at h ⊢;exact hK _ _ h
 | some o =>
  simp only [ho] at h ⊢
  split
  ·rename_i hw
   rw [if_pos hw] at h
   rcases h with h | ⟨_,h⟩
   ·exact ⟨fun _ _=>trivial,upon_wide hK _ h⟩
   ·exact absurd h hL
  ·rename_i hw
   rw [if_neg hw] at h
   exact ⟨fun _ _=>trivial,hK _ _ h⟩
theorem headAny_wide {C:World→Prop} {m g:Nat} {L:Array Bool→Act→Prop} (hO:¬ LetsOut Q) (hL:∀ s a w,C w→L s a→wpAnyIn Fence.wide n P .any ops Q g s a w) :
  ∀ (f:Nat) (s:Array Bool) (a:Act) (w:World),C w→headAny P ops C m L f s a→wpAnyIn Fence.wide n P .any ops Q (f+g) s a w:=by
 intro f
 induction f with
 | zero=>intro s a w hw h;rw [Nat.zero_add];exact hL _ _ _ hw h
 | succ f ih =>
  intro s a w hw h
  rw [show f+1+g=f+g+1 by omega]
  exact ⟨fun h0=>absurd h0 h.1,fun i hi=>wideOp_of_op hO (fun _ _ h=>h) (wpOp_of_qOp hw (fun a' w' hw' h'=>ih _ a' w' hw' h') (h.2 i hi).2)⟩
theorem wideAny_of_seq:∀ (l:List Oper) (k:Nat) (s:Array Bool) (a:Act) (w:World),(∀ j,l[j]?=ops[k+j]?) →
  Region.seqB .any ops l.length k s=true→wpListIn Fence.wide n P ops Q l a w→wpAnyIn Fence.wide n P .any ops Q l.length s a w
 | [],_,_,_,_,_,hB,h=>⟨by simpa [Region.seqB] using hB,h⟩
 | o :: l,k,s,a,w,hl,hB,h=>by
  have h0:ops[k]?=some o:=by simpa using (hl 0).symm
  simp only [List.length_cons,Region.seqB,Bool.and_eq_true,decide_eq_true_eq] at hB
  refine ⟨fun h1=>(by rw [hB.1] at h1;cases h1),fun i hi=>?_⟩
  rw [hB.1] at hi
  have hik:i=k:=by simpa using hi
  subst hik
  have hw:wpOpIn Fence.wide n P ops Q i (wpListIn Fence.wide n P ops Q l) a w:=by unfold wpOpIn;simp only [h0];exact h
  exact wpOpIn_mono (fun a' w' h'=>wideAny_of_seq l (i+1) _ a' w' (fun j=>by have:=hl (j+1);simpa [Nat.add_assoc,Nat.add_comm 1 j] using this) hB.2 h') hw
end
theorem iter_tail {k:Nat} {P:Program} {id:Nat} {Q:Exit→Act→World→Prop} {a:Act} {w:World} {u:Later w} {l:List Oper} (n:Nat) (hm:P.follows .mixedOrders=true) (hB:Region.lexTailB .any l.toArray n=true) (hO:¬ LetsOut Q)
  (h:wpQuiet P l.toArray (fun w'=>∃ u:Later w,w'=u.now) (fun a'=>∀ w',(∃ u:Later w,w'=u.now)→wpListIn Fence.wide k P l.toArray Q (l.drop n) a' w') (l.take n) a):(Code.region id l.toArray true).wpIn Fence.wide k P Q a u.now:=by
 simp only [Region.lexTailB,Bool.and_eq_true,decide_eq_true_eq] at hB
 obtain ⟨⟨⟨⟨hsel,hn⟩,hs⟩,hc⟩,hlex⟩:=hB
 have hn':n<l.length:=by simpa using hn
 have tl:(l.take n).length=n:=by simp;omega
 have dl:(l.drop n).length=l.toArray.size-n:=by simp
 have H:=headAny_lex (P:=P) (C:=fun w'=>∃ u:Later w,w'=u.now) (g:=l.toArray.size-n) hsel hs hc hn (l.take n) 0 (Array.replicate l.toArray.size false) a
  (fun j hj=>by rw [tl] at hj;simp [hj]) (by rw [tl];omega)
  ⟨by simp,fun j oj _ hj=>(by rw [getD_replicate_false] at hj;cases hj),fun t _ ht=>getD_in (by simpa using ht) (getD_replicate_false _ _)⟩ (by rw [tl];exact hlex) h
 have G:=headAny_wide (Q:=Q) (n:=k) (g:=l.toArray.size-n) hO (fun s a' w' hw' hL=>by
  have:=wideAny_of_seq (Q:=Q) (n:=k) (P:=P) (l.drop n) n s a' w' (fun j=>by simp [List.getElem?_drop]) (by rw [dl];exact hL.1) (hL.2 w' hw')
  rwa [dl] at this) _ _ _ u.now.drew ⟨⟨_,up_drew u.up⟩,rfl⟩ H
 rw [tl,show n+(l.toArray.size-n)=l.toArray.size by omega] at G
 exact wpIn_region_any hm G
end Go.Proofs.YtbbjileignefbaaGreatDoor
