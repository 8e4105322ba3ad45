/- Part 2 of the texts that the proofs of this seat share: TrodAt, OpenJob, JobWant, PanelSpec, StyleMath, PlaceRef, RefPanel, RefHalf, RefStyle, PlaceAlive, StyleSpec. -/
import Derived.Test.YtobpfncglbhcmaaProg
import Derived.Test.YtobpfncglbhcmaaPart1
import Derived.Deep.Fields
import Derived.OpenShut
import Derived.Lib.SmallJoins
import Derived.RowKit3
import Derived.SliceStrings
import Derived.Deep.DeepCutAuto
import Derived.WalkKit
set_option linter.unusedSimpArgs false
set_option linter.unusedVariables false
namespace Go.Proofs.Ytobpfncglbhcmaa
open Go.RowKit Go.Deep Go.ChangeShapes Go.WideShapes
set_option maxRecDepth 100000
section
variable {H:Type} {enc:TypeId×Value→H} {w:World} {base:Nat} {spare:Nat→Bool} {held:Bool}
theorem trod_int_at {fuel o:Nat} {cs:List Value} {y:DataW H×List MemPlace} (ho:o<cs.length) (h:DataW.trod enc Try.prog w base spare held fuel 3 ((cs.drop o).take 1)=some y):∃ z,cs[o]?=some (.int .i64 z)∧(Lit.int .i64 z).wf=true:=by
 obtain ⟨v,hv,hw⟩:=trod_fit (by rw [List.length_take,List.length_drop];omega) h
 rw [Try.underlying3] at hw
 obtain ⟨z,rfl,hz⟩:=hw
 refine ⟨z,?_,hz⟩
 have:((cs.drop o).take 1)[0]?=some (.int .i64 z):=by rw [hv];rfl
 simpa [ho] using this
theorem take_take_drop {cs:List Value} {o k i:Nat} (h:i<k):(((cs.drop o).take k).drop i).take 1=(cs.drop (o+i)).take 1:=by
 rw [List.drop_take,List.take_take,List.drop_drop,Nat.min_eq_left (by omega)]
theorem trod_at {t ft:TypeId} {i o fuel:Nat} {cs:List Value} {x:DataW H×List MemPlace} (hs:(match Try.prog.underlying t with | some (.struct fs)=>(fs[i]?).map fun f=>(f.type,f.offset) | _=>none)=some (ft,o))
  (h:DataW.trod enc Try.prog w base spare held fuel t cs=some x):∃ m y,DataW.trod enc Try.prog w base spare held m ft ((cs.drop o).take (Try.prog.cellsOf ft))=some y:=by
 cases hu:Try.prog.underlying t with
 | none=>rw [hu] at hs;cases hs
 | some d =>
  rw [hu] at hs
  cases d
  case struct fs =>
   simp only [Option.map_eq_some_iff,Prod.mk.injEq] at hs
   obtain ⟨f,hf0,rfl,rfl⟩:=hs
   obtain ⟨xs,m,_,_,_,hxl,hf⟩:=DataW.trod_struct hu h
   have g:=hf i f hf0
   have hi:i<xs.length:=by rw [hxl];exact (Array.getElem?_eq_some_iff.1 hf0).1
   rw [List.getElem?_eq_getElem hi] at g
   exact ⟨m,_,g⟩
  all_goals cases hs
theorem trod_int_field {t:TypeId} {i o fuel:Nat} {cs:List Value} {x:DataW H×List MemPlace} (hs:(match Try.prog.underlying t with | some (.struct fs)=>(fs[i]?).map fun f=>(f.type,f.offset) | _=>none)=some (3,o)) (ho:o<cs.length)
  (h:DataW.trod enc Try.prog w base spare held fuel t cs=some x):∃ z,cs[o]?=some (.int .i64 z)∧(Lit.int .i64 z).wf=true:=by
 obtain ⟨m,y,g⟩:=trod_at hs h
 rw [show Try.prog.cellsOf 3=1 by kernel_rfl] at g
 exact trod_int_at ho g
theorem wf_int {z:Int} (h:(Lit.int .i64 z).wf=true):-9223372036854775808≤z∧z≤9223372036854775807:=by
 simp [Lit.wf,IntKind.min,IntKind.max,IntKind.bits,IntKind.signed] at h
 omega
end
end Go.Proofs.Ytobpfncglbhcmaa
namespace Go.Proofs.Ytobpfncglbhcmaa
open Go.RowKit Go.Deep Go.ChangeShapes Go.WideShapes
set_option maxRecDepth 100000
section
variable {H:Type} {enc:TypeId×Value→H} {w:World} {base:Nat} {spare:Nat→Bool} {held:Bool}
theorem textsA_of (a:Option Addr) (len cap:Nat) (w:World)
  (h:(a=none∧len=0∧cap=0)∨∃ x,a=some x∧len≤cap∧cap≤maxLen∧∀ i,i<len→∃ z:ByteArray,w.cell? (x.add i)=some (.string z)∧z.size≤maxLen) :
  ∃ ls:List (List UInt8),ls.length=len∧TxA w a cap ls∧∀ x∈ls,x.length≤maxLen:=by
 rcases h with ⟨rfl,rfl,rfl⟩ | ⟨x,rfl,hl,hm,hc⟩
 ·exact ⟨[],rfl,.inl rfl,by simp⟩
 ·by_cases h0:len=0
  ·subst h0;exact ⟨[],rfl,.inl rfl,by simp⟩
  obtain ⟨b,off,spot⟩:=x
  have hspot:spot=none:=by
   obtain ⟨z,hz,_⟩:=hc 0 (by omega)
   simpa [Addr.add] using World.cell?_spot hz
  subst hspot
  obtain ⟨l,e,hq⟩:=list_of (Q:=fun i (p:List UInt8)=>w.cell? ⟨b,off+i,none⟩=some (.string (tx p))∧p.length≤maxLen) len (fun i hi=>by
   obtain ⟨z,h1,h2⟩:=hc i hi
   rw [Go.WideShapes.add_plain] at h1
   exact ⟨z.data.toList,by rw [tx_data];exact h1,by rw [size_data];exact h2⟩)
  refine ⟨l,e,.inr ⟨b,off,rfl,fun i p hp=>(hq i p hp).1,by omega,hm⟩,fun p hp=>?_⟩
  obtain ⟨i,hi⟩:=List.getElem?_of_mem hp
  exact (hq i p hi).2
theorem open_jobF {fuel:Nat} {cs:List Value} {x:DataW H×List MemPlace} (hl:cs.length=33) (h:DataW.trod enc Try.prog w base spare held fuel 29 cs=some x) :
  ∃ j:Jb,(JobA w cs j∧j.t.length≤maxLen∧∀ p∈j.ls,p.length≤maxLen)∧(∀ i,-9223372036854775808≤j.n i∧j.n i≤9223372036854775807)∧j.f.c≤9223372036854775807∧j.f.r≤9223372036854775807:=by
 obtain ⟨z0,h0,g0⟩:=trod_int_field (i:=1) (o:=1) (by kernel_rfl) (by omega) h
 obtain ⟨z3,h3,g3⟩:=trod_int_field (i:=3) (o:=4) (by kernel_rfl) (by omega) h
 obtain ⟨z4,h4,g4⟩:=trod_int_field (i:=4) (o:=5) (by kernel_rfl) (by omega) h
 obtain ⟨z5,h5,g5⟩:=trod_int_field (i:=5) (o:=6) (by kernel_rfl) (by omega) h
 obtain ⟨z6,h6,g6⟩:=trod_int_field (i:=6) (o:=7) (by kernel_rfl) (by omega) h
 obtain ⟨z7,h7,g7⟩:=trod_int_field (i:=7) (o:=8) (by kernel_rfl) (by omega) h
 obtain ⟨z8,h8,g8⟩:=trod_int_field (i:=8) (o:=9) (by kernel_rfl) (by omega) h
 obtain ⟨z9,h9,g9⟩:=trod_int_field (i:=9) (o:=10) (by kernel_rfl) (by omega) h
 obtain ⟨z10,h10,g10⟩:=trod_int_field (i:=10) (o:=11) (by kernel_rfl) (by omega) h
 obtain ⟨z11,h11,g11⟩:=trod_int_field (i:=13) (o:=16) (by kernel_rfl) (by omega) h
 obtain ⟨z12,h12,g12⟩:=trod_int_field (i:=14) (o:=17) (by kernel_rfl) (by omega) h
 obtain ⟨z13,h13,g13⟩:=trod_int_field (i:=15) (o:=18) (by kernel_rfl) (by omega) h
 obtain ⟨z14,h14,g14⟩:=trod_int_field (i:=16) (o:=19) (by kernel_rfl) (by omega) h
 obtain ⟨z15,h15,g15⟩:=trod_int_field (i:=17) (o:=20) (by kernel_rfl) (by omega) h
 obtain ⟨z16,h16,g16⟩:=trod_int_field (i:=18) (o:=21) (by kernel_rfl) (by omega) h
 obtain ⟨z17,h17,g17⟩:=trod_int_field (i:=19) (o:=22) (by kernel_rfl) (by omega) h
 obtain ⟨z18,h18,g18⟩:=trod_int_field (i:=20) (o:=23) (by kernel_rfl) (by omega) h
 obtain ⟨z19,h19,g19⟩:=trod_int_field (i:=21) (o:=24) (by kernel_rfl) (by omega) h
 obtain ⟨z20,h20,g20⟩:=trod_int_field (i:=22) (o:=25) (by kernel_rfl) (by omega) h
 obtain ⟨z21,h21,g21⟩:=trod_int_field (i:=23) (o:=26) (by kernel_rfl) (by omega) h
 obtain ⟨z22,h22,g22⟩:=trod_int_field (i:=24) (o:=27) (by kernel_rfl) (by omega) h
 obtain ⟨z23,h23,g23⟩:=trod_int_field (i:=25) (o:=28) (by kernel_rfl) (by omega) h
 obtain ⟨z24,h24,g24⟩:=trod_int_field (i:=26) (o:=29) (by kernel_rfl) (by omega) h
 obtain ⟨z25,h25,g25⟩:=trod_int_field (i:=27) (o:=30) (by kernel_rfl) (by omega) h
 obtain ⟨z26,h26,g26⟩:=trod_int_field (i:=28) (o:=31) (by kernel_rfl) (by omega) h
 obtain ⟨z27,h27,g27⟩:=trod_int_field (i:=29) (o:=32) (by kernel_rfl) (by omega) h
 obtain ⟨mb,yb,gb⟩:=trod_at (i:=2) (o:=2) (ft:=23) (by kernel_rfl) h
 rw [show Try.prog.cellsOf 23=2 by kernel_rfl] at gb
 obtain ⟨z1,h1,g1⟩:=trod_int_field (i:=0) (o:=0) (by kernel_rfl) (by rw [List.length_take,List.length_drop];omega) gb
 obtain ⟨z2,h2,g2⟩:=trod_int_field (i:=1) (o:=1) (by kernel_rfl) (by rw [List.length_take,List.length_drop];omega) gb
 obtain ⟨mf,yf,gf⟩:=trod_at (i:=11) (o:=12) (ft:=26) (by kernel_rfl) h
 rw [show Try.prog.cellsOf 26=3 by kernel_rfl] at gf
 obtain ⟨c,hc,gc⟩:=trod_int_field (i:=0) (o:=0) (by kernel_rfl) (by rw [List.length_take,List.length_drop];omega) gf
 obtain ⟨r,hr,gr⟩:=trod_int_field (i:=1) (o:=1) (by kernel_rfl) (by rw [List.length_take,List.length_drop];omega) gf
 obtain ⟨ms,ys,gs⟩:=trod_at (i:=2) (o:=2) (ft:=24) (by kernel_rfl) gf
 rw [show Try.prog.cellsOf 24=1 by kernel_rfl,take_take_drop (by omega)] at gs
 obtain ⟨ml,yl,gl⟩:=trod_at (i:=12) (o:=15) (ft:=27) (by kernel_rfl) h
 rw [show Try.prog.cellsOf 27=1 by kernel_rfl] at gl
 obtain ⟨mt,yt,gt⟩:=trod_at (i:=0) (o:=0) (ft:=9) (by kernel_rfl) h
 rw [show Try.prog.cellsOf 9=1 by kernel_rfl] at gt
 obtain ⟨T,hT,_,hTz⟩:=DataW.trod_string Try.underlying9 gt
 have hT0:cs[0]?=some (.string T):=by
  have:((cs.drop 0).take 1)[0]?=some (.string T):=by rw [hT];rfl
  simpa using this
 obtain ⟨a,len,cap,es,ws⟩:∃ (a:Option Addr) (len cap:Nat),(cs.drop 14).take 1=[Value.slice a len cap]∧((a=none∧len=0∧cap=0)∨∃ x,a=some x∧len≤cap∧cap≤maxLen∧∀ i,i<len→(∃ z,w.cell? (x.add (i*3+0))=some (.int .i64 z)∧(Lit.int .i64 z).wf=true)∧(∃ z,w.cell? (x.add (i*3+1))=some (.int .i64 z)∧(Lit.int .i64 z).wf=true)∧(∃ z,w.cell? (x.add (i*3+2))=some (.bool z))):=by
  rcases open_cell_structs Try.underlying24 Try.underlying53 (by kernel_rfl) (by kernel_rfl) gs with hcs | ⟨x,l,c,hcs,hl,hm,hV⟩
  ·exact ⟨none,0,0,hcs,.inl ⟨rfl,rfl,rfl⟩⟩
  ·exact ⟨some x,l,c,hcs,.inr ⟨x,rfl,hl,hm,fun i hi=>⟨fit_int Try.underlying3 (hV i hi 0 _ rfl),fit_int Try.underlying3 (hV i hi 1 _ rfl),fit_bool Try.underlying4 (hV i hi 2 _ rfl)⟩⟩⟩
 obtain ⟨a',len',cap',el,wl⟩:∃ (a:Option Addr) (len cap:Nat),(cs.drop 15).take 1=[Value.slice a len cap]∧((a=none∧len=0∧cap=0)∨∃ x,a=some x∧len≤cap∧cap≤maxLen∧∀ i,i<len→∃ z:ByteArray,w.cell? (x.add i)=some (.string z)∧z.size≤maxLen):=by
  rcases open_strings Try.underlying27 Try.underlying9 (by kernel_rfl) gl with ⟨hcs,_⟩ | ⟨x,l,c,ss,hcs,_,hl,hm,hz,_,hcell,hwz⟩
  ·exact ⟨none,0,0,hcs,.inl ⟨rfl,rfl,rfl⟩⟩
  ·refine ⟨some x,l,c,hcs,.inr ⟨x,rfl,hl,hm,fun i hi=>?_⟩⟩
   have hlen:i<ss.length:=by rw [hz];split<;>omega
   exact ⟨_,hcell i hlen,hwz _ (by simp [List.getD_eq_getElem?_getD,List.getElem?_eq_getElem hlen])⟩
 have e14:cs[14]?=some (.slice a len cap):=by
  have:((cs.drop 14).take 1)[0]?=some (.slice a len cap):=by rw [es];rfl
  simpa using this
 have e15:cs[15]?=some (.slice a' len' cap'):=by
  have:((cs.drop 15).take 1)[0]?=some (.slice a' len' cap'):=by rw [el];rfl
  simpa using this
 have e2:cs[2]?=some (.int .i64 z1):=by simpa using h1
 have e3:cs[3]?=some (.int .i64 z2):=by simpa using h2
 have e12:cs[12]?=some (.int .i64 c):=by simpa using hc
 have e13:cs[13]?=some (.int .i64 r):=by simpa using hr
 obtain ⟨l,hll,hI⟩:=steps_of a len cap w ws
 obtain ⟨ls,hls,hA,hz⟩:=textsA_of a' len' cap' w wl
 subst hll hls
 have hall:∀ z∈[z0,z1,z2,z3,z4,z5,z6,z7,z8,z9,z10,z11,z12,z13,z14,z15,z16,z17,z18,z19,z20,z21,z22,z23,z24,z25,z26,z27],-9223372036854775808≤z∧z≤9223372036854775807:=by
  simp only [List.mem_cons,List.not_mem_nil,or_false,forall_eq_or_imp,forall_eq]
  exact ⟨wf_int g0,wf_int g1,wf_int g2,wf_int g3,wf_int g4,wf_int g5,wf_int g6,wf_int g7,wf_int g8,wf_int g9,wf_int g10,wf_int g11,wf_int g12,wf_int g13,wf_int g14,wf_int g15,wf_int g16,wf_int g17,wf_int g18,wf_int g19,wf_int g20,wf_int g21,wf_int g22,wf_int g23,wf_int g24,wf_int g25,wf_int g26,wf_int g27⟩
 obtain ⟨n,hn⟩:∃ n:Nat→Int,n=fun i=>([z0,z1,z2,z3,z4,z5,z6,z7,z8,z9,z10,z11,z12,z13,z14,z15,z16,z17,z18,z19,z20,z21,z22,z23,z24,z25,z26,z27]:List Int).getD i 0:=⟨_,rfl⟩
 refine ⟨⟨T.data.toList,n,⟨c,r,l⟩,ls⟩,⟨⟨a,cap,a',cap',?_,hI,hA⟩,by simp only;rw [size_data];exact hTz,hz⟩,(fun i=>by
  simp only [hn,List.getD_eq_getElem?_getD]
  by_cases hi:i < [z0,z1,z2,z3,z4,z5,z6,z7,z8,z9,z10,z11,z12,z13,z14,z15,z16,z17,z18,z19,z20,z21,z22,z23,z24,z25,z26,z27].length
  ·rw [List.getElem?_eq_getElem hi]
   exact hall _ (List.getElem_mem hi)
  ·rw [List.getElem?_eq_none (by omega)]
   decide),(wf_int gc).2,(wf_int gr).2⟩
 rw [tx_data]
 subst hn
 apply List.ext_getElem?
 intro k
 by_cases hk:k<33
 ·have hw:k=0∨k=1∨k=2∨k=3∨k=4∨k=5∨k=6∨k=7∨k=8∨k=9∨k=10∨k=11∨k=12∨k=13∨k=14∨k=15∨k=16∨k=17∨k=18∨k=19∨k=20∨k=21∨k=22∨k=23∨k=24∨k=25∨k=26∨k=27∨k=28∨k=29∨k=30∨k=31∨k=32:=by omega
  rcases hw with rfl | rfl | rfl | rfl | rfl | rfl | rfl | rfl | rfl | rfl | rfl | rfl | rfl | rfl | rfl | rfl | rfl | rfl | rfl | rfl | rfl | rfl | rfl | rfl | rfl | rfl | rfl | rfl | rfl | rfl | rfl | rfl | rfl
  all_goals first
   | exact hT0
   | exact e2
   | exact e3
   | exact e12
   | exact e13
   | exact e14
   | exact e15
   | exact h0
   | exact h3
   | exact h4
   | exact h5
   | exact h6
   | exact h7
   | exact h8
   | exact h9
   | exact h10
   | exact h11
   | exact h12
   | exact h13
   | exact h14
   | exact h15
   | exact h16
   | exact h17
   | exact h18
   | exact h19
   | exact h20
   | exact h21
   | exact h22
   | exact h23
   | exact h24
   | exact h25
   | exact h26
   | exact h27
 ·rw [List.getElem?_eq_none (by omega),List.getElem?_eq_none (by rw [jobL_length];omega)]
theorem open_jobW {fuel:Nat} {cs:List Value} {x:DataW H×List MemPlace} (hl:cs.length=33) (h:DataW.trod enc Try.prog w base spare held fuel 29 cs=some x) :
  ∃ j:Jb,(JobA w cs j∧j.t.length≤maxLen∧∀ p∈j.ls,p.length≤maxLen)∧∀ i,-9223372036854775808≤j.n i∧j.n i≤9223372036854775807:=by
 obtain ⟨j,h1,h2,-⟩:=open_jobF hl h
 exact ⟨j,h1,h2⟩
end
end Go.Proofs.Ytobpfncglbhcmaa
namespace Go.Proofs.Ytobpfncglbhcmaa
open Go.RowKit
section
variable {ops:Array Oper} {rest:List Oper} {o:Oper} {a:Act} {w:World} {Q:Exit→Act→World→Prop} {C:World→Prop} {K:Act→Prop}
theorem wpList_load_job_want (x:Operand) (ho:o.op=.load 29 x) (hw:Region.wanted o (yielded ops a.tmps)=true) (b:Nat) (hx:a.eval x=.pointer (some ⟨b,0,none⟩)) (cs:List Value) (hb:Bx w b cs) (hl:cs.length=33)
  (h:wpList Try.prog ops Q rest (a.put o.dst (.agg cs.toArray)) w):wpList Try.prog ops Q (o :: rest) a w:=by
 unfold wpList
 rw [if_pos hw]
 refine .inl ?_
 unfold Oper.wp execOp
 simp only [ho,hx,Instr.loadAt,Instr.sureAddr,Sem.run_bind,Sem.run_pure,Result.andThen_ok,run_loadVar_mid w b 0 29 cs _ hb.range Try.underlying29 rfl (by rw [hl];exact infoJob)]
 exact h
end
end Go.Proofs.Ytobpfncglbhcmaa
namespace Go.Proofs.Ytobpfncglbhcmaa
open Go.RowKit
def rcV (r:Int×Int×Int×Int):Value:=.agg #[.int .i64 r.1,.int .i64 r.2.1,.int .i64 r.2.2.1,.int .i64 r.2.2.2]
def plV (r:Int×Int×Int):Value:=.agg #[.int .i64 r.1,.int .i64 r.2.1,.int .i64 r.2.2]
theorem wf_i64 {z:Int} (h:(Lit.int .i64 z).wf=true):I64 z:=wf_int h
def styB (s:Int):Bool:=decide (1≤s)&&decide (s≤4)
def acrB (s:Int):Bool:=decide (s=2) || decide (s=4)
def platesS (s:Int):Int:=if styB s=true then (if 3≤s then 1 else 2) else 0
def flipS (n:Nat→Int):Int×Int×Int:=if styB (n 11)=true then (if acrB (n 11)=true then (6,0,n 13) else (4,n 12,0)) else (0,0,0)
def lowS (n:Nat→Int):Int:=if acrB (n 11)=true then max (n 15) (n 16) else n 15
def topS (n:Nat→Int):Int:=if acrB (n 11)=true then w64 (n 13-max (n 15) (n 16)) else w64 (n 13-n 16)
def areaS (n:Nat→Int):Int×Int×Int×Int:=if styB (n 11)=true then (n 14,lowS n,w64 (n 12-n 14),topS n) else (0,0,0,0)
def regionS (n:Nat→Int):Int×Int×Int×Int :=
 ((areaS n).1,(areaS n).2.1,if n 11=3 then min (n 12 / 2) (areaS n).2.2.1 else (areaS n).2.2.1,if n 11=4 then min (n 13 / 2) (areaS n).2.2.2 else (areaS n).2.2.2)
theorem refPdo_core (t X Y x y a b c d p q s1 s2:Int) (w:World) (e1:IntKind.i64.wrap (p+X)=s1) (e2:IntKind.i64.wrap (q+Y)=s2)
  (KO:∀ w,Calls Try.prog 24 #[.int .i64 t] w fun e w'=>e=.returned (.agg #[.int .i64 a,.int .i64 b,.int .i64 c,.int .i64 d])∧Below w.heap.size w w')
  (KD:∀ w,Calls Try.prog 23 #[.agg #[.int .i64 a,.int .i64 b,.int .i64 c,.int .i64 d],.int .i64 x,.int .i64 y] w fun e w'=>e=.returned (.tuple #[.int .i64 p,.int .i64 q])∧Below w.heap.size w w') :
  Calls Try.prog 13 #[.agg #[.int .i64 t,.int .i64 X,.int .i64 Y],.agg #[.int .i64 x,.int .i64 y]] w fun e w'=>e=.returned (.agg #[.int .i64 s1,.int .i64 s2])∧Below w.heap.size w w':=by
 have HO:=Lib.hid KO;have HD:=Lib.hid KD
 clear KO KD
 go_enter Try.func13,Try.ntmps13
 go_wp2_with fail
 have A:=((Bx.new w 33 [.int .i64 t,.int .i64 X,.int .i64 Y]).alloc (.cells #[.int .i64 x,.int .i64 y] 23)).alloc (.cells #[.int .i64 0,.int .i64 0] 23)
 have C:=(Bx.new (w.alloc (.cells #[.int .i64 t,.int .i64 X,.int .i64 Y] 33)) 23 [.int .i64 x,.int .i64 y]).alloc (.cells #[.int .i64 0,.int .i64 0] 23)
 have R:=Bx.new ((w.alloc (.cells #[.int .i64 t,.int .i64 X,.int .i64 Y] 33)).alloc (.cells #[.int .i64 x,.int .i64 y] 23)) 23 [.int .i64 0,.int .i64 0]
 simp only [World.size_alloc] at C R
 have B1:=up_alloc (up_alloc (up_alloc (Below.refl _ w) (.cells #[.int .i64 t,.int .i64 X,.int .i64 Y] 33)) (.cells #[.int .i64 x,.int .i64 y] 23)) (.cells #[.int .i64 0,.int .i64 0] 23)
 generalize ((w.alloc (.cells #[.int .i64 t,.int .i64 X,.int .i64 Y] 33)).alloc (.cells #[.int .i64 x,.int .i64 y] 23)).alloc (.cells #[.int .i64 0,.int .i64 0] 23)=w1 at *
 have HB:=Lib.hid B1;clear B1
 have a0:=fun u:Later w1=>u.cell (A.cell 0 rfl);have a1:=fun u:Later w1=>u.cell (A.cell 1 rfl);have a2:=fun u:Later w1=>u.cell (A.cell 2 rfl)
 have c0:=fun u:Later w1=>u.cell (C.cell 0 rfl);have c1:=fun u:Later w1=>u.cell (C.cell 1 rfl)
 clear A C
 refine later_start (w:=w1) ?_
 intro u
 refine wp_region_later (by kernel_rfl) (by kernel_rfl) ?_
 repeat (go_big_quiet_step (first
  | (go_at_call 24;with_reducible exact Later.call (HO.out _))
  | (go_at_call 23;with_reducible exact Later.call (HD.out _))))
 refine wpQuiet_nil ?_
 rintro _ ⟨u2,rfl⟩
 have R2:=R.up u2.up
 have a1':=a1 u2;have a2':=a2 u2
 have B:=up_trans HB.out u2.up
 have r0:=R2.cell 0 rfl;have r1:=R2.cell 1 rfl;have rf:=R2.free
 clear R R2 a0 a1 a2 c0 c1
 generalize u2.now=w2 at *
 go_wp2
 refine bodyPost_ret (v:=.agg #[.int .i64 s1,.int .i64 s2]) (by simp [results,Try.results13,go_sem,r0,r1]) rfl ⟨rfl,?_⟩
 repeat (first | (with_reducible exact B) | (with_reducible apply up_alloc) | (with_reducible refine up_set ?_ (by simp only;omega) _))
theorem refPdo_any (t X Y x y:Int) (w:World) (h0:-9223372036854775808≤x) (h1:x≤9223372036854775807) (k0:-9223372036854775808≤y) (k1:y≤9223372036854775807) :
  Calls Try.prog 13 #[.agg #[.int .i64 t,.int .i64 X,.int .i64 Y],.agg #[.int .i64 x,.int .i64 y]] w fun e w'=>e=.returned (.agg #[.int .i64 (pdo t X Y x y).1,.int .i64 (pdo t X Y x y).2])∧Below w.heap.size w w':=by
 obtain ⟨i,hi⟩:=fin8 t
 have e:=mat_does i x y h0 h1 k0 k1
 refine refPdo_core t X Y x y (mx (i.val:Int)).a (mx (i.val:Int)).b (mx (i.val:Int)).c (mx (i.val:Int)).d (doT (i.val:Int) x y).1 (doT (i.val:Int) x y).2 _ _ w ?_ ?_ ?_ ?_
 ·unfold pdo add64;rw [hi]
 ·unfold pdo add64;rw [hi]
 ·intro w;have:=refTurnOf_any t w;rwa [hi] at this
 ·intro w;have:=refDo_any (mx (i.val:Int)) x y w;rwa [e] at this
theorem refPbox_core (t X Y x0 y0 x1 y1 p0 p1 q0 q1 m0 m1 m2 m3:Int) (w:World)
  (KP:∀ w,Calls Try.prog 13 #[.agg #[.int .i64 t,.int .i64 X,.int .i64 Y],.agg #[.int .i64 x0,.int .i64 y0]] w fun e w'=>e=.returned (.agg #[.int .i64 p0,.int .i64 p1])∧Below w.heap.size w w')
  (KQ:∀ w,Calls Try.prog 13 #[.agg #[.int .i64 t,.int .i64 X,.int .i64 Y],.agg #[.int .i64 x1,.int .i64 y1]] w fun e w'=>e=.returned (.agg #[.int .i64 q0,.int .i64 q1])∧Below w.heap.size w w')
  (L0:∀ w,Calls Try.prog 25 #[.int .i64 p0,.int .i64 q0] w fun e w'=>e=.returned (.int .i64 m0)∧Below w.heap.size w w')
  (L1:∀ w,Calls Try.prog 25 #[.int .i64 p1,.int .i64 q1] w fun e w'=>e=.returned (.int .i64 m1)∧Below w.heap.size w w')
  (G0:∀ w,Calls Try.prog 26 #[.int .i64 p0,.int .i64 q0] w fun e w'=>e=.returned (.int .i64 m2)∧Below w.heap.size w w')
  (G1:∀ w,Calls Try.prog 26 #[.int .i64 p1,.int .i64 q1] w fun e w'=>e=.returned (.int .i64 m3)∧Below w.heap.size w w') :
  Calls Try.prog 15 #[.agg #[.int .i64 t,.int .i64 X,.int .i64 Y],.agg #[.int .i64 x0,.int .i64 y0,.int .i64 x1,.int .i64 y1]] w fun e w'=>e=.returned (.agg #[.int .i64 m0,.int .i64 m1,.int .i64 m2,.int .i64 m3])∧Below w.heap.size w w':=by
 have HP:=Lib.hid KP;have HQ:=Lib.hid KQ;have HL0:=Lib.hid L0;have HL1:=Lib.hid L1;have HG0:=Lib.hid G0;have HG1:=Lib.hid G1
 clear KP KQ L0 L1 G0 G1
 go_enter Try.func15,Try.ntmps15
 go_wp2_with fail
 refine (HP.out _).mono ?_
 rintro e w1 ⟨rfl,hb⟩
 have A:=(((Bx.new w 33 [.int .i64 t,.int .i64 X,.int .i64 Y]).alloc (.cells #[.int .i64 x0,.int .i64 y0,.int .i64 x1,.int .i64 y1] 36)).alloc (.cells #[.int .i64 0,.int .i64 0,.int .i64 0,.int .i64 0] 36)).up hb
 have C:=((Bx.new (w.alloc (.cells #[.int .i64 t,.int .i64 X,.int .i64 Y] 33)) 36 [.int .i64 x0,.int .i64 y0,.int .i64 x1,.int .i64 y1]).alloc (.cells #[.int .i64 0,.int .i64 0,.int .i64 0,.int .i64 0] 36)).up hb
 have R:=(Bx.new ((w.alloc (.cells #[.int .i64 t,.int .i64 X,.int .i64 Y] 33)).alloc (.cells #[.int .i64 x0,.int .i64 y0,.int .i64 x1,.int .i64 y1] 36)) 36 [.int .i64 0,.int .i64 0,.int .i64 0,.int .i64 0]).up hb
 simp only [World.size_alloc] at C R
 have B1:=Lib.hid (up_trans (up_alloc (up_alloc (up_alloc (Below.refl _ w) _) _) _) hb)
 clear hb
 have A':=A.alloc (.cells #[.int .i64 p0,.int .i64 p1] 23)
 have C':=C.alloc (.cells #[.int .i64 p0,.int .i64 p1] 23)
 have R':=R.alloc (.cells #[.int .i64 p0,.int .i64 p1] 23)
 have P':=Bx.new w1 23 [.int .i64 p0,.int .i64 p1]
 have a0:=A'.cell 0 rfl;have a1:=A'.cell 1 rfl;have a2:=A'.cell 2 rfl
 have c2:=C'.cell 2 rfl;have c3:=C'.cell 3 rfl
 clear A C R A' C'
 go_wp2_with fail
 refine (HQ.out _).mono ?_
 rintro e w2 ⟨rfl,hb⟩
 have P2:=(P'.up hb).alloc (.cells #[.int .i64 q0,.int .i64 q1] 23)
 have R2:=(R'.up hb).alloc (.cells #[.int .i64 q0,.int .i64 q1] 23)
 have Q2:=Bx.new w2 23 [.int .i64 q0,.int .i64 q1]
 have B3:=up_alloc (up_trans (up_alloc B1.out _) hb) (.cells #[.int .i64 q0,.int .i64 q1] 23)
 clear hb R' P' a0 a1 a2 c2 c3
 go_wp2_with fail
 generalize w2.alloc (.cells #[.int .i64 q0,.int .i64 q1] 23)=w3 at *
 have HB:=Lib.hid B3;clear B3
 have d0:=fun u:Later w3=>u.cell (P2.cell 0 rfl);have d1:=fun u:Later w3=>u.cell (P2.cell 1 rfl)
 have f0:=fun u:Later w3=>u.cell (Q2.cell 0 rfl);have f1:=fun u:Later w3=>u.cell (Q2.cell 1 rfl)
 clear P2 Q2
 refine later_start (w:=w3) ?_
 intro u
 refine wp_region_later_tail 21 (by kernel_rfl) (by kernel_rfl) ?_
 simp only [List.take_succ_cons,List.take_zero,List.drop_succ_cons,List.drop_zero]
 repeat (go_big_quiet_step (first
  | (go_at_call 25;first | (with_reducible exact Later.call (HL0.out _)) | (with_reducible exact Later.call (HL1.out _)))
  | (go_at_call 26;first | (with_reducible exact Later.call (HG0.out _)) | (with_reducible exact Later.call (HG1.out _)))))
 refine wpQuiet_nil ?_
 rintro _ ⟨u2,rfl⟩
 clear d0 d1 f0 f1
 have R3:=R2.up u2.up
 have B:=up_trans HB.out u2.up
 have r0:=R3.cell 0 rfl;have r1:=R3.cell 1 rfl;have r2:=R3.cell 2 rfl;have r3:=R3.cell 3 rfl;have rf:=R3.free
 clear R2 R3
 generalize u2.now=w4 at *
 go_wp2
 refine bodyPost_ret (v:=.agg #[.int .i64 m0,.int .i64 m1,.int .i64 m2,.int .i64 m3]) (by simp [results,Try.results15,go_sem,r0,r1,r2,r3]) rfl ⟨rfl,?_⟩
 repeat (first | (with_reducible exact B) | (with_reducible apply up_alloc) | (with_reducible refine up_set ?_ (by simp only;omega) _))
theorem refPbox_any (t X Y x0 y0 x1 y1:Int) (w:World) (h0:(Lit.int .i64 x0).wf=true) (h1:(Lit.int .i64 y0).wf=true) (h2:(Lit.int .i64 x1).wf=true) (h3:(Lit.int .i64 y1).wf=true) :
  Calls Try.prog 15 #[.agg #[.int .i64 t,.int .i64 X,.int .i64 Y],.agg #[.int .i64 x0,.int .i64 y0,.int .i64 x1,.int .i64 y1]] w fun e w'=>e=.returned (.agg #[.int .i64 (min (pdo t X Y x0 y0).1 (pdo t X Y x1 y1).1),.int .i64 (min (pdo t X Y x0 y0).2 (pdo t X Y x1 y1).2),.int .i64 (max (pdo t X Y x0 y0).1 (pdo t X Y x1 y1).1),.int .i64 (max (pdo t X Y x0 y0).2 (pdo t X Y x1 y1).2)])∧Below w.heap.size w w' :=
 refPbox_core t X Y x0 y0 x1 y1 _ _ _ _ _ _ _ _ w
  (fun w=>refPdo_any t X Y x0 y0 w (bounds_i64 h0).1 (bounds_i64 h0).2 (bounds_i64 h1).1 (bounds_i64 h1).2) (fun w=>refPdo_any t X Y x1 y1 w (bounds_i64 h2).1 (bounds_i64 h2).2 (bounds_i64 h3).1 (bounds_i64 h3).2)
  (fun w=>low_b _ _ w) (fun w=>low_b _ _ w) (fun w=>high_b _ _ w) (fun w=>high_b _ _ w)
def NumC (cs:List Value) (n:Nat→Int):Prop:=∀ k,k<28→cs[cellJ k]?=some (.int .i64 (n k))
theorem JobA.numC {w:World} {cs:List Value} {j:Jb} (h:JobA w cs j):NumC cs j.n:=fun k hk=>h.num hk
theorem refHalf20_any (x:Int) (w:World):Calls Try.prog 22 #[.int .i64 x] w fun e w'=>e=.returned (.int .i64 (x / 2))∧Below w.heap.size w w':=by
 go_enter Try.func22,Try.ntmps22
 go_wp2
 go_ret
 exact ⟨rfl,Below.refl _ _⟩
theorem refAcross_any (cs:List Value) (s:Int) (w:World) (c16:cs[16]?=some (.int .i64 s)) :
  Calls Try.prog 20 #[.agg cs.toArray] w fun e w'=>e=.returned (.bool (acrB s))∧Below w.heap.size w w':=by
 have HX:=Bx.new w 29 cs
 have HB:=Lib.hid (up_alloc (Below.refl w.heap.size w) (.cells cs.toArray 29))
 have b16:=HX.cell 16 c16
 clear HX c16
 generalize cs.toArray=ca at *
 obtain ⟨u,hu⟩:∃ u,(s==2)=u:=⟨_,rfl⟩
 obtain ⟨v,hv⟩:∃ v,(s==4)=v:=⟨_,rfl⟩
 have E:=Lib.hid (show acrB s=(u || v) by rw [←hu,←hv];unfold acrB;rfl)
 cases u<;>cases v
 all_goals
  rw [E.out]
  go_enter Try.func20,Try.ntmps20
  go_wp2
  go_ret
  exact ⟨rfl,HB.out⟩
set_option maxRecDepth 100000 in
set_option maxHeartbeats 1000000 in
theorem refFlip_core (cs:List Value) (s W H:Int) (f0 f1 f2:Int) (u v a:Bool) (w:World) (hL:cs.length=33) (c16:cs[16]?=some (.int .i64 s)) (c17:cs[17]?=some (.int .i64 W)) (c18:cs[18]?=some (.int .i64 H))
  (hu:decide (s<1)=u) (hv:decide (4<s)=v) (h0:(if (u || v)=true then 0 else if a=true then 6 else 4)=f0) (h1:(if (u || v)=true then 0 else if a=true then 0 else W)=f1) (h2:(if (u || v)=true then 0 else if a=true then H else 0)=f2)
  (KA:∀ w1,Calls Try.prog 20 #[.agg cs.toArray] w1 fun e w'=>e=.returned (.bool a)∧Below w1.heap.size w1 w') :
  Calls Try.prog 8 #[.agg cs.toArray] w fun e w'=>e=.returned (.agg #[.int .i64 f0,.int .i64 f1,.int .i64 f2])∧Below w.heap.size w w':=by
 have X1:=Bx.new w 29 cs
 have U1:=up_alloc (Below.refl w.heap.size w) (.cells cs.toArray 29)
 have U2:=up_alloc (Below.refl _ (w.alloc (.cells cs.toArray 29))) (.cells #[.int .i64 0,.int .i64 0,.int .i64 0] 33)
 have HX:=Lib.hid (X1.later (by rw [hL];decide) U2)
 have R1:=Bx.new (w.alloc (.cells cs.toArray 29)) 33 [.int .i64 0,.int .i64 0,.int .i64 0]
 rw [World.size_alloc] at R1
 have HR:=Lib.hid R1
 have HB:=Lib.hid (up_trans U1 U2)
 have HL:=Lib.hid hL;have HA:=Lib.hid KA;have H16:=Lib.hid c16;have H17:=Lib.hid c17;have H18:=Lib.hid c18
 have E0:=Lib.hid h0;have E1:=Lib.hid h1;have E2:=Lib.hid h2
 have b16:=HX.out.cell 16 H16.out
 obtain ⟨w1,hw1⟩:∃ w1,(w.alloc (.cells cs.toArray 29)).alloc (.cells #[.int .i64 0,.int .i64 0,.int .i64 0] 33)=w1:=⟨_,rfl⟩
 have HW:=Lib.hid hw1
 rw [hw1] at HX HR HB
 clear X1 U1 U2 R1 hL KA c16 c17 c18 h0 h1 h2 hw1
 have fin:∀ (p q r:Int) (w3:World),Bx w3 (w.heap.size+1) [.int .i64 p,.int .i64 q,.int .i64 r]→True:=fun _ _ _ _ _=>trivial
 clear fin
 cases u
 ·cases v
  ·cases a
   ·obtain rfl:(4:Int)=f0:=E0.out
    obtain rfl:(W:Int)=f1:=E1.out
    obtain rfl:(0:Int)=f2:=E2.out
    go_enter Try.func8,Try.ntmps8
    go_upto_if 10 with fail
    rw [HW.out]
    clear b16
    go_wp2_with (refine wpList_load_job rfl _ rfl w.heap.size rfl cs HX.out HL.out ?_;simp only [Act.put,List.setIfInBounds_toArray,List.set_cons_succ,List.set_cons_zero])
    refine (HA.out _).mono ?_
    rintro e w2 ⟨rfl,hb⟩
    have X2:=HX.out.later (by rw [HL.out];decide) hb
    have R2:=HR.out.up hb
    have BB:=Lib.hid (up_trans HB.out hb)
    have b17:=X2.cell 17 H17.out;have b18:=X2.cell 18 H18.out
    have r0:=R2.cell 0 rfl;have r1:=R2.cell 1 rfl;have r2:=R2.cell 2 rfl;have rf:=R2.free
    have R4:=R2.set3 (.int .i64 4) (.int .i64 W) (.int .i64 0)
    clear hb X2 R2
    have p0:=Lib.hid (R4.cell 0 rfl);have p1:=Lib.hid (R4.cell 1 rfl);have p2:=Lib.hid (R4.cell 2 rfl)
    clear R4
    go_wp2
    have q0:=p0.out;have q1:=p1.out;have q2:=p2.out
    refine bodyPost_ret (v:=.agg #[.int .i64 4,.int .i64 W,.int .i64 0]) (by simp [results,Try.results8,go_sem,q0,q1,q2]) rfl ⟨rfl,?_⟩
    exact up_set (up_set (up_set BB.out (by simp only;omega) _) (by simp only;omega) _) (by simp only;omega) _
   ·obtain rfl:(6:Int)=f0:=E0.out
    obtain rfl:(0:Int)=f1:=E1.out
    obtain rfl:(H:Int)=f2:=E2.out
    go_enter Try.func8,Try.ntmps8
    go_upto_if 10 with fail
    rw [HW.out]
    clear b16
    go_wp2_with (refine wpList_load_job rfl _ rfl w.heap.size rfl cs HX.out HL.out ?_;simp only [Act.put,List.setIfInBounds_toArray,List.set_cons_succ,List.set_cons_zero])
    refine (HA.out _).mono ?_
    rintro e w2 ⟨rfl,hb⟩
    have X2:=HX.out.later (by rw [HL.out];decide) hb
    have R2:=HR.out.up hb
    have BB:=Lib.hid (up_trans HB.out hb)
    have b17:=X2.cell 17 H17.out;have b18:=X2.cell 18 H18.out
    have r0:=R2.cell 0 rfl;have r1:=R2.cell 1 rfl;have r2:=R2.cell 2 rfl;have rf:=R2.free
    have R4:=R2.set3 (.int .i64 6) (.int .i64 0) (.int .i64 H)
    clear hb X2 R2
    have p0:=Lib.hid (R4.cell 0 rfl);have p1:=Lib.hid (R4.cell 1 rfl);have p2:=Lib.hid (R4.cell 2 rfl)
    clear R4
    go_wp2
    have q0:=p0.out;have q1:=p1.out;have q2:=p2.out
    refine bodyPost_ret (v:=.agg #[.int .i64 6,.int .i64 0,.int .i64 H]) (by simp [results,Try.results8,go_sem,q0,q1,q2]) rfl ⟨rfl,?_⟩
    exact up_set (up_set (up_set BB.out (by simp only;omega) _) (by simp only;omega) _) (by simp only;omega) _
  ·obtain rfl:(0:Int)=f0:=E0.out
   obtain rfl:(0:Int)=f1:=E1.out
   obtain rfl:(0:Int)=f2:=E2.out
   go_enter Try.func8,Try.ntmps8
   go_upto_if 10 with fail
   rw [HW.out]
   clear b16
   have r0:=HR.out.cell 0 rfl;have r1:=HR.out.cell 1 rfl;have r2:=HR.out.cell 2 rfl;have rf:=HR.out.free
   have R4:=HR.out.set3 (.int .i64 0) (.int .i64 0) (.int .i64 0)
   have BB:=HB
   have w9:=0
   have p0:=Lib.hid (R4.cell 0 rfl);have p1:=Lib.hid (R4.cell 1 rfl);have p2:=Lib.hid (R4.cell 2 rfl)
   clear R4
   go_wp2
   have q0:=p0.out;have q1:=p1.out;have q2:=p2.out
   refine bodyPost_ret (v:=.agg #[.int .i64 0,.int .i64 0,.int .i64 0]) (by simp [results,Try.results8,go_sem,q0,q1,q2]) rfl ⟨rfl,?_⟩
   exact up_set (up_set (up_set BB.out (by simp only;omega) _) (by simp only;omega) _) (by simp only;omega) _
 ·obtain rfl:(0:Int)=f0:=E0.out
  obtain rfl:(0:Int)=f1:=E1.out
  obtain rfl:(0:Int)=f2:=E2.out
  go_enter Try.func8,Try.ntmps8
  go_upto_if 10 with fail
  rw [HW.out]
  clear b16
  have r0:=HR.out.cell 0 rfl;have r1:=HR.out.cell 1 rfl;have r2:=HR.out.cell 2 rfl;have rf:=HR.out.free
  have R4:=HR.out.set3 (.int .i64 0) (.int .i64 0) (.int .i64 0)
  have BB:=HB
  have w9:=0
  have p0:=Lib.hid (R4.cell 0 rfl);have p1:=Lib.hid (R4.cell 1 rfl);have p2:=Lib.hid (R4.cell 2 rfl)
  clear R4
  go_wp2
  have q0:=p0.out;have q1:=p1.out;have q2:=p2.out
  refine bodyPost_ret (v:=.agg #[.int .i64 0,.int .i64 0,.int .i64 0]) (by simp [results,Try.results8,go_sem,q0,q1,q2]) rfl ⟨rfl,?_⟩
  exact up_set (up_set (up_set BB.out (by simp only;omega) _) (by simp only;omega) _) (by simp only;omega) _
set_option maxRecDepth 100000 in
set_option maxHeartbeats 4000000 in
theorem refArea_core (cs:List Value) (s W H S G T x1 y1 m ym o0 o1 o2 o3:Int) (u v a g:Bool) (w:World) (hL:cs.length=33) (c16:cs[16]?=some (.int .i64 s)) (c17:cs[17]?=some (.int .i64 W)) (c18:cs[18]?=some (.int .i64 H)) (c19:cs[19]?=some (.int .i64 S)) (c20:cs[20]?=some (.int .i64 G)) (c21:cs[21]?=some (.int .i64 T))
  (hu:decide (s<1)=u) (hv:decide (4<s)=v) (e1:IntKind.i64.wrap (W-S)=x1) (e2:IntKind.i64.wrap (H-T)=y1) (hg:decide (G<T)=g) (hm:(if g=true then T else G)=m) (e3:IntKind.i64.wrap (H-m)=ym)
  (h0:(if (u || v)=true then 0 else S)=o0) (h1:(if (u || v)=true then 0 else if a=true then m else G)=o1) (h2:(if (u || v)=true then 0 else x1)=o2) (h3:(if (u || v)=true then 0 else if a=true then ym else y1)=o3)
  (KA:∀ w1,Calls Try.prog 20 #[.agg cs.toArray] w1 fun e w'=>e=.returned (.bool a)∧Below w1.heap.size w1 w') :
  Calls Try.prog 10 #[.agg cs.toArray] w fun e w'=>e=.returned (.agg #[.int .i64 o0,.int .i64 o1,.int .i64 o2,.int .i64 o3])∧Below w.heap.size w w':=by
 have X1:=Bx.new w 29 cs
 have U1:=up_alloc (Below.refl w.heap.size w) (.cells cs.toArray 29)
 have U2:=up_alloc (Below.refl _ (w.alloc (.cells cs.toArray 29))) (.cells #[.int .i64 0,.int .i64 0,.int .i64 0,.int .i64 0] 36)
 have HX:=Lib.hid (X1.later (by rw [hL];decide) U2)
 have R1:=Bx.new (w.alloc (.cells cs.toArray 29)) 36 [.int .i64 0,.int .i64 0,.int .i64 0,.int .i64 0]
 rw [World.size_alloc] at R1
 have HR:=Lib.hid R1
 have HB:=Lib.hid (up_trans U1 U2)
 have HL:=Lib.hid hL;have HA:=Lib.hid KA;have H16:=Lib.hid c16;have H17:=Lib.hid c17;have H18:=Lib.hid c18;have H19:=Lib.hid c19;have H20:=Lib.hid c20;have H21:=Lib.hid c21
 have E0:=Lib.hid h0;have E1:=Lib.hid h1;have E2:=Lib.hid h2;have E3:=Lib.hid h3;have EM:=Lib.hid hm;have E4:=Lib.hid e3
 have b16:=HX.out.cell 16 H16.out
 obtain ⟨w1,hw1⟩:∃ w1,(w.alloc (.cells cs.toArray 29)).alloc (.cells #[.int .i64 0,.int .i64 0,.int .i64 0,.int .i64 0] 36)=w1:=⟨_,rfl⟩
 have HW:=Lib.hid hw1
 rw [hw1] at HX HR HB
 clear X1 U1 U2 R1 hL KA c16 c17 c18 c19 c20 c21 h0 h1 h2 h3 hm e3 hw1
 cases u
 ·cases v
  ·cases a
   ·obtain rfl:S=o0:=E0.out
    obtain rfl:G=o1:=E1.out
    obtain rfl:x1=o2:=E2.out
    obtain rfl:y1=o3:=E3.out
    go_enter Try.func10,Try.ntmps10
    go_upto_if 12 with fail
    rw [HW.out]
    clear b16
    have b17:=HX.out.cell 17 H17.out;have b18:=HX.out.cell 18 H18.out;have b19:=HX.out.cell 19 H19.out;have b20:=HX.out.cell 20 H20.out;have b21:=HX.out.cell 21 H21.out
    have U3:=up_alloc (Below.refl _ w1) (.cells #[.int .i64 S,.int .i64 G,.int .i64 x1,.int .i64 y1] 36)
    have S3:=Bx.new w1 36 [.int .i64 S,.int .i64 G,.int .i64 x1,.int .i64 y1]
    have X3:=Lib.hid (HX.out.later (by rw [HL.out];decide) U3)
    have R3:=HR.out.up U3
    have B3:=Lib.hid (up_trans HB.out U3)
    have hlow:w.heap.size+1<w1.heap.size:=HR.out.lt
    go_wp2_with (refine wpList_load_job rfl _ rfl w.heap.size rfl cs X3.out HL.out ?_;simp only [Act.put,List.setIfInBounds_toArray,List.set_cons_succ,List.set_cons_zero])
    refine (HA.out _).mono ?_
    rintro e w2 ⟨rfl,hb⟩
    have X4:=X3.out.later (by rw [HL.out];decide) hb
    have R4:=R3.up hb
    have S4:=S3.up hb
    have B4:=Lib.hid (up_trans B3.out hb)
    clear hb b17 b18 b19 b20 b21 U3 S3 X3 R3 B3
    have S5:=S4
    have R5:=R4
    have BB:=B4
    have k0:=S5.cell 0 rfl;have k1:=S5.cell 1 rfl;have k2:=S5.cell 2 rfl;have k3:=S5.cell 3 rfl
    have r0:=R5.cell 0 rfl;have r1:=R5.cell 1 rfl;have r2:=R5.cell 2 rfl;have r3:=R5.cell 3 rfl;have rf:=R5.free
    have R6:=(((R5.set 0 (.int .i64 S)).set 1 (.int .i64 G)).set 2 (.int .i64 x1)).set 3 (.int .i64 y1)
    clear X4 S4 R4 S5 R5
    have R4:=R6
    clear R6
    have p0:=Lib.hid (R4.cell 0 rfl);have p1:=Lib.hid (R4.cell 1 rfl);have p2:=Lib.hid (R4.cell 2 rfl);have p3:=Lib.hid (R4.cell 3 rfl)
    clear R4
    go_wp2
    have q0:=p0.out;have q1:=p1.out;have q2:=p2.out;have q3:=p3.out
    refine bodyPost_ret (v:=.agg #[.int .i64 S,.int .i64 G,.int .i64 x1,.int .i64 y1]) (by simp [results,Try.results10,go_sem,q0,q1,q2,q3]) rfl ⟨rfl,?_⟩
    exact up_set (up_set (up_set (up_set BB.out (by simp only;omega) _) (by simp only;omega) _) (by simp only;omega) _) (by simp only;omega) _
   ·cases g
    ·obtain rfl:S=o0:=E0.out
     obtain rfl:m=o1:=E1.out
     obtain rfl:x1=o2:=E2.out
     obtain rfl:ym=o3:=E3.out
     go_enter Try.func10,Try.ntmps10
     go_upto_if 12 with fail
     rw [HW.out]
     clear b16
     have b17:=HX.out.cell 17 H17.out;have b18:=HX.out.cell 18 H18.out;have b19:=HX.out.cell 19 H19.out;have b20:=HX.out.cell 20 H20.out;have b21:=HX.out.cell 21 H21.out
     have U3:=up_alloc (Below.refl _ w1) (.cells #[.int .i64 S,.int .i64 G,.int .i64 x1,.int .i64 y1] 36)
     have S3:=Bx.new w1 36 [.int .i64 S,.int .i64 G,.int .i64 x1,.int .i64 y1]
     have X3:=Lib.hid (HX.out.later (by rw [HL.out];decide) U3)
     have R3:=HR.out.up U3
     have B3:=Lib.hid (up_trans HB.out U3)
     have hlow:w.heap.size+1<w1.heap.size:=HR.out.lt
     go_wp2_with (refine wpList_load_job rfl _ rfl w.heap.size rfl cs X3.out HL.out ?_;simp only [Act.put,List.setIfInBounds_toArray,List.set_cons_succ,List.set_cons_zero])
     refine (HA.out _).mono ?_
     rintro e w2 ⟨rfl,hb⟩
     have X4:=X3.out.later (by rw [HL.out];decide) hb
     have R4:=R3.up hb
     have S4:=S3.up hb
     have B4:=Lib.hid (up_trans B3.out hb)
     clear hb b17 b18 b19 b20 b21 U3 S3 X3 R3 B3
     obtain hm:G=m:=EM.out
     have e3:=E4.out
     have b18:=X4.cell 18 H18.out;have b20:=X4.cell 20 H20.out;have b21:=X4.cell 21 H21.out
     have s0:=S4.cell 0 rfl;have s1:=S4.cell 1 rfl;have s2:=S4.cell 2 rfl;have s3:=S4.cell 3 rfl;have sf:=S4.free
     have nx:w1.heap.size≠w.heap.size:=by omega
     have nr:w1.heap.size≠w.heap.size+1:=by omega
     subst hm
     have S5:=(S4.set 1 (.int .i64 G)).set 3 (.int .i64 ym)
     have t1:=(S4.set 1 (.int .i64 G)).cell 3 rfl;have tf:=(S4.set 1 (.int .i64 G)).free
     have b18':=(X4.far (p:=⟨w1.heap.size,1,none⟩) nx (.int .i64 G)).cell 18 H18.out
     have R5:=(R4.far (p:=⟨w1.heap.size,1,none⟩) nr (.int .i64 G)).far (p:=⟨w1.heap.size,3,none⟩) nr (.int .i64 ym)
     have BB:=Lib.hid (up_set (up_set B4.out (p:=⟨w1.heap.size,1,none⟩) (by simp only;omega) (.int .i64 G)) (p:=⟨w1.heap.size,3,none⟩) (by simp only;omega) (.int .i64 ym))
     have k0:=S5.cell 0 rfl;have k1:=S5.cell 1 rfl;have k2:=S5.cell 2 rfl;have k3:=S5.cell 3 rfl
     have r0:=R5.cell 0 rfl;have r1:=R5.cell 1 rfl;have r2:=R5.cell 2 rfl;have r3:=R5.cell 3 rfl;have rf:=R5.free
     have R6:=(((R5.set 0 (.int .i64 S)).set 1 (.int .i64 G)).set 2 (.int .i64 x1)).set 3 (.int .i64 ym)
     clear X4 S4 R4 S5 R5
     have R4:=R6
     clear R6
     have p0:=Lib.hid (R4.cell 0 rfl);have p1:=Lib.hid (R4.cell 1 rfl);have p2:=Lib.hid (R4.cell 2 rfl);have p3:=Lib.hid (R4.cell 3 rfl)
     clear R4
     go_wp2
     have q0:=p0.out;have q1:=p1.out;have q2:=p2.out;have q3:=p3.out
     refine bodyPost_ret (v:=.agg #[.int .i64 S,.int .i64 G,.int .i64 x1,.int .i64 ym]) (by simp [results,Try.results10,go_sem,q0,q1,q2,q3]) rfl ⟨rfl,?_⟩
     exact up_set (up_set (up_set (up_set BB.out (by simp only;omega) _) (by simp only;omega) _) (by simp only;omega) _) (by simp only;omega) _
    ·obtain rfl:S=o0:=E0.out
     obtain rfl:m=o1:=E1.out
     obtain rfl:x1=o2:=E2.out
     obtain rfl:ym=o3:=E3.out
     go_enter Try.func10,Try.ntmps10
     go_upto_if 12 with fail
     rw [HW.out]
     clear b16
     have b17:=HX.out.cell 17 H17.out;have b18:=HX.out.cell 18 H18.out;have b19:=HX.out.cell 19 H19.out;have b20:=HX.out.cell 20 H20.out;have b21:=HX.out.cell 21 H21.out
     have U3:=up_alloc (Below.refl _ w1) (.cells #[.int .i64 S,.int .i64 G,.int .i64 x1,.int .i64 y1] 36)
     have S3:=Bx.new w1 36 [.int .i64 S,.int .i64 G,.int .i64 x1,.int .i64 y1]
     have X3:=Lib.hid (HX.out.later (by rw [HL.out];decide) U3)
     have R3:=HR.out.up U3
     have B3:=Lib.hid (up_trans HB.out U3)
     have hlow:w.heap.size+1<w1.heap.size:=HR.out.lt
     go_wp2_with (refine wpList_load_job rfl _ rfl w.heap.size rfl cs X3.out HL.out ?_;simp only [Act.put,List.setIfInBounds_toArray,List.set_cons_succ,List.set_cons_zero])
     refine (HA.out _).mono ?_
     rintro e w2 ⟨rfl,hb⟩
     have X4:=X3.out.later (by rw [HL.out];decide) hb
     have R4:=R3.up hb
     have S4:=S3.up hb
     have B4:=Lib.hid (up_trans B3.out hb)
     clear hb b17 b18 b19 b20 b21 U3 S3 X3 R3 B3
     obtain hm:T=m:=EM.out
     have e3:=E4.out
     have b18:=X4.cell 18 H18.out;have b20:=X4.cell 20 H20.out;have b21:=X4.cell 21 H21.out
     have s0:=S4.cell 0 rfl;have s1:=S4.cell 1 rfl;have s2:=S4.cell 2 rfl;have s3:=S4.cell 3 rfl;have sf:=S4.free
     have nx:w1.heap.size≠w.heap.size:=by omega
     have nr:w1.heap.size≠w.heap.size+1:=by omega
     subst hm
     have ey:ym=y1:=e3.symm.trans e2
     subst ey
     have S5:=(S4.set 1 (.int .i64 T)).set 3 (.int .i64 ym)
     have t1:=(S4.set 1 (.int .i64 T)).cell 3 rfl;have tf:=(S4.set 1 (.int .i64 T)).free
     have b18':=(X4.far (p:=⟨w1.heap.size,1,none⟩) nx (.int .i64 T)).cell 18 H18.out
     have R5:=(R4.far (p:=⟨w1.heap.size,1,none⟩) nr (.int .i64 T)).far (p:=⟨w1.heap.size,3,none⟩) nr (.int .i64 ym)
     have BB:=Lib.hid (up_set (up_set B4.out (p:=⟨w1.heap.size,1,none⟩) (by simp only;omega) (.int .i64 T)) (p:=⟨w1.heap.size,3,none⟩) (by simp only;omega) (.int .i64 ym))
     have k0:=S5.cell 0 rfl;have k1:=S5.cell 1 rfl;have k2:=S5.cell 2 rfl;have k3:=S5.cell 3 rfl
     have r0:=R5.cell 0 rfl;have r1:=R5.cell 1 rfl;have r2:=R5.cell 2 rfl;have r3:=R5.cell 3 rfl;have rf:=R5.free
     have R6:=(((R5.set 0 (.int .i64 S)).set 1 (.int .i64 T)).set 2 (.int .i64 x1)).set 3 (.int .i64 ym)
     clear X4 S4 R4 S5 R5
     have R4:=R6
     clear R6
     have p0:=Lib.hid (R4.cell 0 rfl);have p1:=Lib.hid (R4.cell 1 rfl);have p2:=Lib.hid (R4.cell 2 rfl);have p3:=Lib.hid (R4.cell 3 rfl)
     clear R4
     go_wp2
     have q0:=p0.out;have q1:=p1.out;have q2:=p2.out;have q3:=p3.out
     refine bodyPost_ret (v:=.agg #[.int .i64 S,.int .i64 T,.int .i64 x1,.int .i64 ym]) (by simp [results,Try.results10,go_sem,q0,q1,q2,q3]) rfl ⟨rfl,?_⟩
     exact up_set (up_set (up_set (up_set BB.out (by simp only;omega) _) (by simp only;omega) _) (by simp only;omega) _) (by simp only;omega) _
  ·obtain rfl:(0:Int)=o0:=E0.out
   obtain rfl:(0:Int)=o1:=E1.out
   obtain rfl:(0:Int)=o2:=E2.out
   obtain rfl:(0:Int)=o3:=E3.out
   go_enter Try.func10,Try.ntmps10
   go_upto_if 12 with fail
   rw [HW.out]
   clear b16
   have r0:=HR.out.cell 0 rfl;have r1:=HR.out.cell 1 rfl;have r2:=HR.out.cell 2 rfl;have r3:=HR.out.cell 3 rfl;have rf:=HR.out.free
   have R4:=(((HR.out.set 0 (.int .i64 0)).set 1 (.int .i64 0)).set 2 (.int .i64 0)).set 3 (.int .i64 0)
   have BB:=HB
   have p0:=Lib.hid (R4.cell 0 rfl);have p1:=Lib.hid (R4.cell 1 rfl);have p2:=Lib.hid (R4.cell 2 rfl);have p3:=Lib.hid (R4.cell 3 rfl)
   clear R4
   go_wp2
   have q0:=p0.out;have q1:=p1.out;have q2:=p2.out;have q3:=p3.out
   refine bodyPost_ret (v:=.agg #[.int .i64 0,.int .i64 0,.int .i64 0,.int .i64 0]) (by simp [results,Try.results10,go_sem,q0,q1,q2,q3]) rfl ⟨rfl,?_⟩
   exact up_set (up_set (up_set (up_set BB.out (by simp only;omega) _) (by simp only;omega) _) (by simp only;omega) _) (by simp only;omega) _
 ·obtain rfl:(0:Int)=o0:=E0.out
  obtain rfl:(0:Int)=o1:=E1.out
  obtain rfl:(0:Int)=o2:=E2.out
  obtain rfl:(0:Int)=o3:=E3.out
  go_enter Try.func10,Try.ntmps10
  go_upto_if 12 with fail
  rw [HW.out]
  clear b16
  have r0:=HR.out.cell 0 rfl;have r1:=HR.out.cell 1 rfl;have r2:=HR.out.cell 2 rfl;have r3:=HR.out.cell 3 rfl;have rf:=HR.out.free
  have R4:=(((HR.out.set 0 (.int .i64 0)).set 1 (.int .i64 0)).set 2 (.int .i64 0)).set 3 (.int .i64 0)
  have BB:=HB
  have p0:=Lib.hid (R4.cell 0 rfl);have p1:=Lib.hid (R4.cell 1 rfl);have p2:=Lib.hid (R4.cell 2 rfl);have p3:=Lib.hid (R4.cell 3 rfl)
  clear R4
  go_wp2
  have q0:=p0.out;have q1:=p1.out;have q2:=p2.out;have q3:=p3.out
  refine bodyPost_ret (v:=.agg #[.int .i64 0,.int .i64 0,.int .i64 0,.int .i64 0]) (by simp [results,Try.results10,go_sem,q0,q1,q2,q3]) rfl ⟨rfl,?_⟩
  exact up_set (up_set (up_set (up_set BB.out (by simp only;omega) _) (by simp only;omega) _) (by simp only;omega) _) (by simp only;omega) _
theorem not3of4 {s:Int} (h:(s==4)=true):(s==3)=false:=by simp at h ⊢;omega
set_option maxRecDepth 100000 in
set_option maxHeartbeats 4000000 in
theorem refRegion_core (cs:List Value) (s W H hw hh A0 A1 A2 A3 o2 o3:Int) (u v g k:Bool) (w:World) (hL:cs.length=33) (c16:cs[16]?=some (.int .i64 s)) (c17:cs[17]?=some (.int .i64 W)) (c18:cs[18]?=some (.int .i64 H))
  (hu:(s==3)=u) (hv:(s==4)=v) (huv:v=true→u=false) (hg:decide (hw<A2)=g) (hk:decide (hh<A3)=k) (h2:(if (u&&g)=true then hw else A2)=o2) (h3:(if (v&&k)=true then hh else A3)=o3)
  (KA:∀ w1,Calls Try.prog 10 #[.agg cs.toArray] w1 fun e w'=>e=.returned (.agg #[.int .i64 A0,.int .i64 A1,.int .i64 A2,.int .i64 A3])∧Below w1.heap.size w1 w')
  (K1:∀ w1,Calls Try.prog 22 #[.int .i64 W] w1 fun e w'=>e=.returned (.int .i64 hw)∧Below w1.heap.size w1 w')
  (K2:∀ w1,Calls Try.prog 22 #[.int .i64 H] w1 fun e w'=>e=.returned (.int .i64 hh)∧Below w1.heap.size w1 w') :
  Calls Try.prog 12 #[.agg cs.toArray] w fun e w'=>e=.returned (.agg #[.int .i64 A0,.int .i64 A1,.int .i64 o2,.int .i64 o3])∧Below w.heap.size w w':=by
 have X1:=Bx.new w 29 cs
 have U1:=up_alloc (Below.refl w.heap.size w) (.cells cs.toArray 29)
 have U2:=up_alloc (Below.refl _ (w.alloc (.cells cs.toArray 29))) (.cells #[.int .i64 0,.int .i64 0,.int .i64 0,.int .i64 0] 36)
 have HX:=Lib.hid (X1.later (by rw [hL];decide) U2)
 have R1:=Bx.new (w.alloc (.cells cs.toArray 29)) 36 [.int .i64 0,.int .i64 0,.int .i64 0,.int .i64 0]
 rw [World.size_alloc] at R1
 have HR:=Lib.hid R1
 have HB:=Lib.hid (up_trans U1 U2)
 have HL:=Lib.hid hL;have HA:=Lib.hid KA;have H1:=Lib.hid K1;have H2:=Lib.hid K2;have H16:=Lib.hid c16;have H17:=Lib.hid c17;have H18:=Lib.hid c18
 have E2:=Lib.hid h2;have E3:=Lib.hid h3;have HV:=Lib.hid huv
 clear X1 U1 U2 R1 hL KA K1 K2 c16 c17 c18 h2 h3 huv
 go_enter Try.func12,Try.ntmps12
 go_wp2_with (refine wpList_load_job rfl _ rfl w.heap.size rfl cs HX.out HL.out ?_;simp only [Act.put,List.setIfInBounds_toArray,List.set_cons_succ,List.set_cons_zero])
 refine (HA.out _).mono ?_
 rintro e w2 ⟨rfl,hb⟩
 have U3:=up_alloc (Below.refl _ w2) (.cells #[.int .i64 A0,.int .i64 A1,.int .i64 A2,.int .i64 A3] 36)
 have S3:=Bx.new w2 36 [.int .i64 A0,.int .i64 A1,.int .i64 A2,.int .i64 A3]
 have X3:=(HX.out.later (by rw [HL.out];decide) hb).later (by rw [HL.out];decide) U3
 have R3:=(HR.out.up hb).up U3
 have B3:=Lib.hid (up_trans (up_trans HB.out hb) U3)
 have hlow:w.heap.size+1<w2.heap.size:=(HR.out.up hb).lt
 have nx:w2.heap.size≠w.heap.size:=by omega
 have nr:w2.heap.size≠w.heap.size+1:=by omega
 clear hb HX HR HB
 go_wp2_with fail
 obtain ⟨w3,hw3⟩:∃ w3,w2.alloc (.cells #[.int .i64 A0,.int .i64 A1,.int .i64 A2,.int .i64 A3] 36)=w3:=⟨_,rfl⟩
 rw [hw3] at S3 X3 R3 B3 ⊢
 clear hw3 U3
 have j16:=fun y:Later w3=>y.cell (X3.cell 16 H16.out);have j17:=fun y:Later w3=>y.cell (X3.cell 17 H17.out);have i2:=fun y:Later w3=>y.cell (S3.cell 2 rfl)
 cases v
 ·cases u
  ·obtain rfl:A2=o2:=E2.out
   obtain rfl:A3=o3:=E3.out
   refine later_start (w:=w3) ?_
   intro y
   refine wp_region_later (by kernel_rfl) (by kernel_rfl) ?_
   repeat (go_big_quiet_step ((go_at_call 22;with_reducible exact Later.call (H1.out _))))
   refine wpQuiet_nil ?_
   rintro _ ⟨y2,rfl⟩
   have S4:=S3.up y2.up;have X4:=X3.later (by rw [HL.out];decide) y2.up;have R4:=R3.up y2.up;have B4:=Lib.hid (up_trans B3.out y2.up)
   obtain ⟨w4,hw4⟩:∃ w4,y2.now=w4:=⟨_,rfl⟩
   rw [hw4] at S4 X4 R4 B4 ⊢
   clear hw4 j16 j17 i2 S3 X3 R3 B3 y y2
   go_wp2_with fail
   have S6:=S4
   have X6:=X4
   have R6:=R4
   have B6:=B4
   clear S4 X4 R4 B4
   obtain ⟨w6,hw6⟩:∃ w6,w6=w4:=⟨_,rfl⟩
   subst hw6
   have j16:=fun y:Later w6=>y.cell (X6.cell 16 H16.out);have j18:=fun y:Later w6=>y.cell (X6.cell 18 H18.out);have i3:=fun y:Later w6=>y.cell (S6.cell 3 rfl)
   refine later_start (w:=w6) ?_
   intro y
   refine wp_region_later (by kernel_rfl) (by kernel_rfl) ?_
   repeat (go_big_quiet_step ((go_at_call 22;with_reducible exact Later.call (H2.out _))))
   refine wpQuiet_nil ?_
   rintro _ ⟨y2,rfl⟩
   have S7:=S6.up y2.up;have X7:=X6.later (by rw [HL.out];decide) y2.up;have R7:=R6.up y2.up;have B7:=Lib.hid (up_trans B6.out y2.up)
   obtain ⟨w7,hw7⟩:∃ w7,y2.now=w7:=⟨_,rfl⟩
   rw [hw7] at S7 X7 R7 B7 ⊢
   clear hw7 j16 j18 i3 S6 X6 R6 B6 y y2
   have S9:=S7
   have R9:=R7
   have BB:=B7
   clear S7 X7 R7 B7
   have k0:=S9.cell 0 rfl;have k1:=S9.cell 1 rfl;have k2:=S9.cell 2 rfl;have k3:=S9.cell 3 rfl
   have r0:=R9.cell 0 rfl;have r1:=R9.cell 1 rfl;have r2:=R9.cell 2 rfl;have r3:=R9.cell 3 rfl;have rf:=R9.free
   have R4:=(((R9.set 0 (.int .i64 A0)).set 1 (.int .i64 A1)).set 2 (.int .i64 A2)).set 3 (.int .i64 A3)
   clear S9 R9
   have p0:=Lib.hid (R4.cell 0 rfl);have p1:=Lib.hid (R4.cell 1 rfl);have p2:=Lib.hid (R4.cell 2 rfl);have p3:=Lib.hid (R4.cell 3 rfl)
   clear R4
   go_wp2
   have q0:=p0.out;have q1:=p1.out;have q2:=p2.out;have q3:=p3.out
   refine bodyPost_ret (v:=.agg #[.int .i64 A0,.int .i64 A1,.int .i64 A2,.int .i64 A3]) (by simp [results,Try.results12,go_sem,q0,q1,q2,q3]) rfl ⟨rfl,?_⟩
   exact up_set (up_set (up_set (up_set BB.out (by simp only;omega) _) (by simp only;omega) _) (by simp only;omega) _) (by simp only;omega) _
  ·cases g
   ·obtain rfl:A2=o2:=E2.out
    obtain rfl:A3=o3:=E3.out
    refine later_start (w:=w3) ?_
    intro y
    refine wp_region_later (by kernel_rfl) (by kernel_rfl) ?_
    repeat (go_big_quiet_step ((go_at_call 22;with_reducible exact Later.call (H1.out _))))
    refine wpQuiet_nil ?_
    rintro _ ⟨y2,rfl⟩
    have S4:=S3.up y2.up;have X4:=X3.later (by rw [HL.out];decide) y2.up;have R4:=R3.up y2.up;have B4:=Lib.hid (up_trans B3.out y2.up)
    obtain ⟨w4,hw4⟩:∃ w4,y2.now=w4:=⟨_,rfl⟩
    rw [hw4] at S4 X4 R4 B4 ⊢
    clear hw4 j16 j17 i2 S3 X3 R3 B3 y y2
    go_wp2_with fail
    have S6:=S4
    have X6:=X4
    have R6:=R4
    have B6:=B4
    clear S4 X4 R4 B4
    obtain ⟨w6,hw6⟩:∃ w6,w6=w4:=⟨_,rfl⟩
    subst hw6
    have j16:=fun y:Later w6=>y.cell (X6.cell 16 H16.out);have j18:=fun y:Later w6=>y.cell (X6.cell 18 H18.out);have i3:=fun y:Later w6=>y.cell (S6.cell 3 rfl)
    refine later_start (w:=w6) ?_
    intro y
    refine wp_region_later (by kernel_rfl) (by kernel_rfl) ?_
    repeat (go_big_quiet_step ((go_at_call 22;with_reducible exact Later.call (H2.out _))))
    refine wpQuiet_nil ?_
    rintro _ ⟨y2,rfl⟩
    have S7:=S6.up y2.up;have X7:=X6.later (by rw [HL.out];decide) y2.up;have R7:=R6.up y2.up;have B7:=Lib.hid (up_trans B6.out y2.up)
    obtain ⟨w7,hw7⟩:∃ w7,y2.now=w7:=⟨_,rfl⟩
    rw [hw7] at S7 X7 R7 B7 ⊢
    clear hw7 j16 j18 i3 S6 X6 R6 B6 y y2
    have S9:=S7
    have R9:=R7
    have BB:=B7
    clear S7 X7 R7 B7
    have k0:=S9.cell 0 rfl;have k1:=S9.cell 1 rfl;have k2:=S9.cell 2 rfl;have k3:=S9.cell 3 rfl
    have r0:=R9.cell 0 rfl;have r1:=R9.cell 1 rfl;have r2:=R9.cell 2 rfl;have r3:=R9.cell 3 rfl;have rf:=R9.free
    have R4:=(((R9.set 0 (.int .i64 A0)).set 1 (.int .i64 A1)).set 2 (.int .i64 A2)).set 3 (.int .i64 A3)
    clear S9 R9
    have p0:=Lib.hid (R4.cell 0 rfl);have p1:=Lib.hid (R4.cell 1 rfl);have p2:=Lib.hid (R4.cell 2 rfl);have p3:=Lib.hid (R4.cell 3 rfl)
    clear R4
    go_wp2
    have q0:=p0.out;have q1:=p1.out;have q2:=p2.out;have q3:=p3.out
    refine bodyPost_ret (v:=.agg #[.int .i64 A0,.int .i64 A1,.int .i64 A2,.int .i64 A3]) (by simp [results,Try.results12,go_sem,q0,q1,q2,q3]) rfl ⟨rfl,?_⟩
    exact up_set (up_set (up_set (up_set BB.out (by simp only;omega) _) (by simp only;omega) _) (by simp only;omega) _) (by simp only;omega) _
   ·obtain rfl:hw=o2:=E2.out
    obtain rfl:A3=o3:=E3.out
    refine later_start (w:=w3) ?_
    intro y
    refine wp_region_later (by kernel_rfl) (by kernel_rfl) ?_
    repeat (go_big_quiet_step ((go_at_call 22;with_reducible exact Later.call (H1.out _))))
    refine wpQuiet_nil ?_
    rintro _ ⟨y2,rfl⟩
    have S4:=S3.up y2.up;have X4:=X3.later (by rw [HL.out];decide) y2.up;have R4:=R3.up y2.up;have B4:=Lib.hid (up_trans B3.out y2.up)
    obtain ⟨w4,hw4⟩:∃ w4,y2.now=w4:=⟨_,rfl⟩
    rw [hw4] at S4 X4 R4 B4 ⊢
    clear hw4 j16 j17 i2 S3 X3 R3 B3 y y2
    have b17:=X4.cell 17 H17.out
    go_wp2_with fail
    refine (H1.out _).mono ?_
    rintro e w5 ⟨rfl,hb⟩
    have S5:=S4.up hb;have X5:=X4.later (by rw [HL.out];decide) hb;have R5:=R4.up hb;have B5:=Lib.hid (up_trans B4.out hb)
    clear hb b17 S4 X4 R4 B4
    have s2:=S5.cell 2 rfl;have sf:=S5.free
    go_wp2_with fail
    have S6:=S5.set 2 (.int .i64 hw);have X6:=X5.far (p:=⟨w2.heap.size,2,none⟩) nx (.int .i64 hw);have R6:=R5.far (p:=⟨w2.heap.size,2,none⟩) nr (.int .i64 hw)
    have B6:=Lib.hid (up_set B5.out (p:=⟨w2.heap.size,2,none⟩) (by simp only;omega) (.int .i64 hw))
    obtain ⟨w6,hw6⟩:∃ w6,w5.setCell ⟨w2.heap.size,2,none⟩ (.int .i64 hw)=w6:=⟨_,rfl⟩
    rw [hw6] at S6 X6 R6 B6 ⊢
    clear hw6 S5 X5 R5 B5 s2 sf
    have j16:=fun y:Later w6=>y.cell (X6.cell 16 H16.out);have j18:=fun y:Later w6=>y.cell (X6.cell 18 H18.out);have i3:=fun y:Later w6=>y.cell (S6.cell 3 rfl)
    refine later_start (w:=w6) ?_
    intro y
    refine wp_region_later (by kernel_rfl) (by kernel_rfl) ?_
    repeat (go_big_quiet_step ((go_at_call 22;with_reducible exact Later.call (H2.out _))))
    refine wpQuiet_nil ?_
    rintro _ ⟨y2,rfl⟩
    have S7:=S6.up y2.up;have X7:=X6.later (by rw [HL.out];decide) y2.up;have R7:=R6.up y2.up;have B7:=Lib.hid (up_trans B6.out y2.up)
    obtain ⟨w7,hw7⟩:∃ w7,y2.now=w7:=⟨_,rfl⟩
    rw [hw7] at S7 X7 R7 B7 ⊢
    clear hw7 j16 j18 i3 S6 X6 R6 B6 y y2
    have S9:=S7
    have R9:=R7
    have BB:=B7
    clear S7 X7 R7 B7
    have k0:=S9.cell 0 rfl;have k1:=S9.cell 1 rfl;have k2:=S9.cell 2 rfl;have k3:=S9.cell 3 rfl
    have r0:=R9.cell 0 rfl;have r1:=R9.cell 1 rfl;have r2:=R9.cell 2 rfl;have r3:=R9.cell 3 rfl;have rf:=R9.free
    have R4:=(((R9.set 0 (.int .i64 A0)).set 1 (.int .i64 A1)).set 2 (.int .i64 hw)).set 3 (.int .i64 A3)
    clear S9 R9
    have p0:=Lib.hid (R4.cell 0 rfl);have p1:=Lib.hid (R4.cell 1 rfl);have p2:=Lib.hid (R4.cell 2 rfl);have p3:=Lib.hid (R4.cell 3 rfl)
    clear R4
    go_wp2
    have q0:=p0.out;have q1:=p1.out;have q2:=p2.out;have q3:=p3.out
    refine bodyPost_ret (v:=.agg #[.int .i64 A0,.int .i64 A1,.int .i64 hw,.int .i64 A3]) (by simp [results,Try.results12,go_sem,q0,q1,q2,q3]) rfl ⟨rfl,?_⟩
    exact up_set (up_set (up_set (up_set BB.out (by simp only;omega) _) (by simp only;omega) _) (by simp only;omega) _) (by simp only;omega) _
 ·obtain rfl:u=false:=HV.out (by trivial)
  cases k
  ·obtain rfl:A2=o2:=E2.out
   obtain rfl:A3=o3:=E3.out
   refine later_start (w:=w3) ?_
   intro y
   refine wp_region_later (by kernel_rfl) (by kernel_rfl) ?_
   repeat (go_big_quiet_step ((go_at_call 22;with_reducible exact Later.call (H1.out _))))
   refine wpQuiet_nil ?_
   rintro _ ⟨y2,rfl⟩
   have S4:=S3.up y2.up;have X4:=X3.later (by rw [HL.out];decide) y2.up;have R4:=R3.up y2.up;have B4:=Lib.hid (up_trans B3.out y2.up)
   obtain ⟨w4,hw4⟩:∃ w4,y2.now=w4:=⟨_,rfl⟩
   rw [hw4] at S4 X4 R4 B4 ⊢
   clear hw4 j16 j17 i2 S3 X3 R3 B3 y y2
   go_wp2_with fail
   have S6:=S4
   have X6:=X4
   have R6:=R4
   have B6:=B4
   clear S4 X4 R4 B4
   obtain ⟨w6,hw6⟩:∃ w6,w6=w4:=⟨_,rfl⟩
   subst hw6
   have j16:=fun y:Later w6=>y.cell (X6.cell 16 H16.out);have j18:=fun y:Later w6=>y.cell (X6.cell 18 H18.out);have i3:=fun y:Later w6=>y.cell (S6.cell 3 rfl)
   refine later_start (w:=w6) ?_
   intro y
   refine wp_region_later (by kernel_rfl) (by kernel_rfl) ?_
   repeat (go_big_quiet_step ((go_at_call 22;with_reducible exact Later.call (H2.out _))))
   refine wpQuiet_nil ?_
   rintro _ ⟨y2,rfl⟩
   have S7:=S6.up y2.up;have X7:=X6.later (by rw [HL.out];decide) y2.up;have R7:=R6.up y2.up;have B7:=Lib.hid (up_trans B6.out y2.up)
   obtain ⟨w7,hw7⟩:∃ w7,y2.now=w7:=⟨_,rfl⟩
   rw [hw7] at S7 X7 R7 B7 ⊢
   clear hw7 j16 j18 i3 S6 X6 R6 B6 y y2
   have S9:=S7
   have R9:=R7
   have BB:=B7
   clear S7 X7 R7 B7
   have k0:=S9.cell 0 rfl;have k1:=S9.cell 1 rfl;have k2:=S9.cell 2 rfl;have k3:=S9.cell 3 rfl
   have r0:=R9.cell 0 rfl;have r1:=R9.cell 1 rfl;have r2:=R9.cell 2 rfl;have r3:=R9.cell 3 rfl;have rf:=R9.free
   have R4:=(((R9.set 0 (.int .i64 A0)).set 1 (.int .i64 A1)).set 2 (.int .i64 A2)).set 3 (.int .i64 A3)
   clear S9 R9
   have p0:=Lib.hid (R4.cell 0 rfl);have p1:=Lib.hid (R4.cell 1 rfl);have p2:=Lib.hid (R4.cell 2 rfl);have p3:=Lib.hid (R4.cell 3 rfl)
   clear R4
   go_wp2
   have q0:=p0.out;have q1:=p1.out;have q2:=p2.out;have q3:=p3.out
   refine bodyPost_ret (v:=.agg #[.int .i64 A0,.int .i64 A1,.int .i64 A2,.int .i64 A3]) (by simp [results,Try.results12,go_sem,q0,q1,q2,q3]) rfl ⟨rfl,?_⟩
   exact up_set (up_set (up_set (up_set BB.out (by simp only;omega) _) (by simp only;omega) _) (by simp only;omega) _) (by simp only;omega) _
  ·obtain rfl:A2=o2:=E2.out
   obtain rfl:hh=o3:=E3.out
   refine later_start (w:=w3) ?_
   intro y
   refine wp_region_later (by kernel_rfl) (by kernel_rfl) ?_
   repeat (go_big_quiet_step ((go_at_call 22;with_reducible exact Later.call (H1.out _))))
   refine wpQuiet_nil ?_
   rintro _ ⟨y2,rfl⟩
   have S4:=S3.up y2.up;have X4:=X3.later (by rw [HL.out];decide) y2.up;have R4:=R3.up y2.up;have B4:=Lib.hid (up_trans B3.out y2.up)
   obtain ⟨w4,hw4⟩:∃ w4,y2.now=w4:=⟨_,rfl⟩
   rw [hw4] at S4 X4 R4 B4 ⊢
   clear hw4 j16 j17 i2 S3 X3 R3 B3 y y2
   go_wp2_with fail
   have S6:=S4
   have X6:=X4
   have R6:=R4
   have B6:=B4
   clear S4 X4 R4 B4
   obtain ⟨w6,hw6⟩:∃ w6,w6=w4:=⟨_,rfl⟩
   subst hw6
   have j16:=fun y:Later w6=>y.cell (X6.cell 16 H16.out);have j18:=fun y:Later w6=>y.cell (X6.cell 18 H18.out);have i3:=fun y:Later w6=>y.cell (S6.cell 3 rfl)
   refine later_start (w:=w6) ?_
   intro y
   refine wp_region_later (by kernel_rfl) (by kernel_rfl) ?_
   repeat (go_big_quiet_step ((go_at_call 22;with_reducible exact Later.call (H2.out _))))
   refine wpQuiet_nil ?_
   rintro _ ⟨y2,rfl⟩
   have S7:=S6.up y2.up;have X7:=X6.later (by rw [HL.out];decide) y2.up;have R7:=R6.up y2.up;have B7:=Lib.hid (up_trans B6.out y2.up)
   obtain ⟨w7,hw7⟩:∃ w7,y2.now=w7:=⟨_,rfl⟩
   rw [hw7] at S7 X7 R7 B7 ⊢
   clear hw7 j16 j18 i3 S6 X6 R6 B6 y y2
   have b18:=X7.cell 18 H18.out
   go_wp2_with fail
   refine (H2.out _).mono ?_
   rintro e w8 ⟨rfl,hb⟩
   have S8:=S7.up hb;have R8:=R7.up hb;have B8:=Lib.hid (up_trans B7.out hb)
   clear hb b18 S7 X7 R7 B7
   have s3:=S8.cell 3 rfl;have sf:=S8.free
   have S9:=S8.set 3 (.int .i64 hh);have R9:=R8.far (p:=⟨w2.heap.size,3,none⟩) nr (.int .i64 hh)
   have BB:=Lib.hid (up_set B8.out (p:=⟨w2.heap.size,3,none⟩) (by simp only;omega) (.int .i64 hh))
   clear S8 R8 B8
   have k0:=S9.cell 0 rfl;have k1:=S9.cell 1 rfl;have k2:=S9.cell 2 rfl;have k3:=S9.cell 3 rfl
   have r0:=R9.cell 0 rfl;have r1:=R9.cell 1 rfl;have r2:=R9.cell 2 rfl;have r3:=R9.cell 3 rfl;have rf:=R9.free
   have R4:=(((R9.set 0 (.int .i64 A0)).set 1 (.int .i64 A1)).set 2 (.int .i64 A2)).set 3 (.int .i64 hh)
   clear S9 R9
   have p0:=Lib.hid (R4.cell 0 rfl);have p1:=Lib.hid (R4.cell 1 rfl);have p2:=Lib.hid (R4.cell 2 rfl);have p3:=Lib.hid (R4.cell 3 rfl)
   clear R4
   go_wp2
   have q0:=p0.out;have q1:=p1.out;have q2:=p2.out;have q3:=p3.out
   refine bodyPost_ret (v:=.agg #[.int .i64 A0,.int .i64 A1,.int .i64 A2,.int .i64 hh]) (by simp [results,Try.results12,go_sem,q0,q1,q2,q3]) rfl ⟨rfl,?_⟩
   exact up_set (up_set (up_set (up_set BB.out (by simp only;omega) _) (by simp only;omega) _) (by simp only;omega) _) (by simp only;omega) _
theorem sty_if (s:Int):(decide (s<1) || decide (4<s))=!styB s:=by
 unfold styB
 rw [Bool.eq_iff_iff]
 simp
theorem refFlip_any (cs:List Value) (n:Nat→Int) (w:World) (h:NumC cs n) (hL:cs.length=33) :
  Calls Try.prog 8 #[.agg cs.toArray] w fun e w'=>e=.returned (.agg #[.int .i64 (flipS n).1,.int .i64 (flipS n).2.1,.int .i64 (flipS n).2.2])∧Below w.heap.size w w':=by
 refine refFlip_core cs (n 11) (n 12) (n 13) _ _ _ _ _ (acrB (n 11)) w hL (h 11 (by decide)) (h 12 (by decide)) (h 13 (by decide)) rfl rfl ?_ ?_ ?_ (fun w1=>refAcross_any cs (n 11) w1 (h 11 (by decide)))
 all_goals
  rw [sty_if]
  unfold flipS
  cases styB (n 11)<;>cases acrB (n 11)<;>rfl
theorem refArea_any (cs:List Value) (n:Nat→Int) (w:World) (h:NumC cs n) (hL:cs.length=33) :
  Calls Try.prog 10 #[.agg cs.toArray] w fun e w'=>e=.returned (.agg #[.int .i64 (areaS n).1,.int .i64 (areaS n).2.1,.int .i64 (areaS n).2.2.1,.int .i64 (areaS n).2.2.2])∧Below w.heap.size w w':=by
 have hm:(if decide (n 15<n 16)=true then n 16 else n 15)=max (n 15) (n 16):=by
  simp only [decide_eq_true_eq]
  split<;>omega
 refine refArea_core cs (n 11) (n 12) (n 13) (n 14) (n 15) (n 16) _ _ _ _ _ _ _ _ _ _ (acrB (n 11)) _ w hL (h 11 (by decide)) (h 12 (by decide)) (h 13 (by decide)) (h 14 (by decide)) (h 15 (by decide)) (h 16 (by decide)) rfl rfl rfl rfl rfl hm rfl ?_ ?_ ?_ ?_ (fun w1=>refAcross_any cs (n 11) w1 (h 11 (by decide)))
 all_goals
  rw [sty_if]
  unfold areaS lowS topS
  cases styB (n 11)<;>cases acrB (n 11)<;>rfl
theorem refRegion_any (cs:List Value) (n:Nat→Int) (w:World) (h:NumC cs n) (hL:cs.length=33) :
  Calls Try.prog 12 #[.agg cs.toArray] w fun e w'=>e=.returned (.agg #[.int .i64 (regionS n).1,.int .i64 (regionS n).2.1,.int .i64 (regionS n).2.2.1,.int .i64 (regionS n).2.2.2])∧Below w.heap.size w w':=by
 refine refRegion_core cs (n 11) (n 12) (n 13) (n 12 / 2) (n 13 / 2) (areaS n).1 (areaS n).2.1 (areaS n).2.2.1 (areaS n).2.2.2 _ _ _ _ _ _ w hL (h 11 (by decide)) (h 12 (by decide)) (h 13 (by decide)) rfl rfl not3of4 rfl rfl ?_ ?_ (fun w1=>refArea_any cs n w1 h hL) (fun w1=>refHalf20_any _ w1) (fun w1=>refHalf20_any _ w1)
 ·unfold regionS
  simp only [Bool.and_eq_true,beq_iff_eq,decide_eq_true_eq]
  by_cases h3:n 11=3
  ·rw [if_pos h3]
   split<;>omega
  ·rw [if_neg h3,if_neg (fun e=>h3 e.1)]
 ·unfold regionS
  simp only [Bool.and_eq_true,beq_iff_eq,decide_eq_true_eq]
  by_cases h3:n 11=4
  ·rw [if_pos h3]
   split<;>omega
  ·rw [if_neg h3,if_neg (fun e=>h3 e.1)]
theorem run_eq2 (a b:Int) (w:World):(binOp .eql 23 (.agg #[.int .i64 a,.int .i64 b]) (.agg #[.int .i64 a,.int .i64 b])).run Try.prog w=.ok (.bool true) w:=by simp [go_sem]
theorem run_eq3 (a b c:Int) (w:World):(binOp .eql 33 (.agg #[.int .i64 a,.int .i64 b,.int .i64 c]) (.agg #[.int .i64 a,.int .i64 b,.int .i64 c])).run Try.prog w=.ok (.bool true) w:=by simp [go_sem]
theorem run_eq4 (a b c d:Int) (w:World):(binOp .eql 36 (.agg #[.int .i64 a,.int .i64 b,.int .i64 c,.int .i64 d]) (.agg #[.int .i64 a,.int .i64 b,.int .i64 c,.int .i64 d])).run Try.prog w=.ok (.bool true) w:=by simp [go_sem]
def StyPlates:Prop:=∀ (s:Int) (w:World),I64 s →
 Calls Try.prog 6 #[.int .i64 s] w fun e w'=>e=.returned (.int .i64 (platesS s))∧Below w.heap.size w w'
def StyFlip:Prop:=∀ (cs:List Value) (j:Jb) (w:World),JobA w cs j →
 Calls Try.prog 7 #[.agg cs.toArray] w fun e w'=>e=.returned (plV (flipS j.n))∧Below w.heap.size w w'
def StyArea:Prop:=∀ (cs:List Value) (j:Jb) (w:World),JobA w cs j →
 Calls Try.prog 9 #[.agg cs.toArray] w fun e w'=>e=.returned (rcV (areaS j.n))∧Below w.heap.size w w'
def StyRegion:Prop:=∀ (cs:List Value) (j:Jb) (w:World),JobA w cs j→(∀ i,I64 (j.n i)) →
 Calls Try.prog 11 #[.agg cs.toArray] w fun e w'=>e=.returned (rcV (regionS j.n))∧Below w.heap.size w w'
def styJ:Jb:={ usualJ with n:=setN (setN usualN 12 100) 11 3 }
theorem sty_flip:flipS styJ.n=(4,100,0):=by decide +kernel
theorem sty_plates:platesS 3=1:=by decide
theorem sty_do:pdo 4 100 0 30 0=(70,0):=by decide +kernel
theorem keep_one {w1 w3:World} {B:Nat} (h:∀ p:Addr,p.block≠B→∀ v,w1.cell? p=some v→w3.cell? p=some v) (o:Nat) (z:Value):∀ p:Addr,p.block≠B→∀ v,w1.cell? p=some v→(w3.setCell ⟨B,o,none⟩ z).cell? p=some v :=
 fun p hp v hv=>keep_sets w3 B o [z] p hp v (h p hp v hv)
set_option maxRecDepth 100000 in
set_option maxHeartbeats 1000000 in
theorem styAlive_any (KP:StyPlates) (KF:StyFlip) (w:World):Calls Try.prog 5 #[] w fun e w'=>e=.returned (.bool true)∧Below w.heap.size w w':=by
 have HU:=Lib.hid (refUsual_any w)
 have HKP:=Lib.hid KP;have HKF:=Lib.hid KF
 clear KP KF
 go_enter Try.func5,Try.ntmps5
 go_wp2_with fail
 refine HU.out.mono ?_
 rintro e w1 ⟨cs,rfl,hJ,hb⟩
 have hl:=hJ.jobA.length
 have HL:=Lib.hid hl
 have H1:=Lib.hid hJ.jobA.one
 have HZ:=Lib.hid (Bx.new w1 29 zeroL)
 have HJ:=Lib.hid hJ
 have HB:=Lib.hid (up_alloc hb (.cells zeroL.toArray 29))
 have HK:=Lib.hid (show ∀ p:Addr,p.block≠w1.heap.size→∀ v,w1.cell? p=some v→(w1.alloc (.cells zeroL.toArray 29)).cell? p=some v from fun p _ v hv=>bl_cell (up_alloc (Below.refl _ w1) _) hv)
 have hlow:=hb.size
 clear hJ hl hb
 go_wp2_with (first
  | (refine wpList_alloc_to rfl 29 rfl _ _ (job_alloc _) ?_;simp only [Act.put,List.setIfInBounds_toArray,List.set_cons_succ,List.set_cons_zero];obtain ⟨w2,hw2⟩:∃ w2,w1.alloc (.cells zeroL.toArray 29)=w2:=⟨_,rfl⟩;rw [hw2] at HZ HB HK ⊢;clear hw2)
  | (refine wpList_store_job rfl _ _ rfl w1.heap.size rfl zeroL cs rfl HZ.out rfl HL.out H1.out ?_;simp only [Act.put];refine wpList_nil ?_;rename_i hK;refine hK _ _ ?_;clear hK;refine Hid.out ?_))
 refine Lib.hid ?_
 have HX3:=Lib.hid (HZ.out.sets (ws:=cs) (by rw [HL.out];rfl))
 have HB3:=Lib.hid (below_setCells (show w.heap.size≤w1.heap.size from hlow) cs 0 _ HB.out)
 have HK3:=Lib.hid (show ∀ p:Addr,p.block≠w1.heap.size→∀ v,w1.cell? p=some v→(w2.setCells w1.heap.size 0 cs).cell? p=some v from fun p hp v hv=>keep_sets _ w1.heap.size 0 cs p hp v (HK.out p hp v hv))
 obtain ⟨w3,hw3⟩:∃ w3,w2.setCells w1.heap.size 0 cs=w3:=⟨_,rfl⟩
 rw [hw3] at HX3 HB3 HK3 ⊢
 clear hw3 HZ HB HK
 have hC:=HJ.out.jobA.numC
 have c17:=HX3.out.cell 17 (hC 12 (by decide));have f3:=HX3.out.free
 have X4:=HX3.out.set 17 (.int .i64 100)
 have c16:=X4.cell 16 (by rw [List.getElem?_set_ne (by decide)];exact hC 11 (by decide));have f4:=X4.free
 have X5:=Lib.hid (X4.set 16 (.int .i64 3))
 have J5:=Lib.hid (((usual_kept HJ.out.jobA (Nat.le_refl _) (keep_one (keep_one HK3.out 17 (.int .i64 100)) 16 (.int .i64 3))).put (k:=12) (by decide) 100).put (k:=11) (by decide) 3)
 have B5:=Lib.hid (up_set (up_set HB3.out (p:=⟨w1.heap.size,17,none⟩) (by simp only;omega) (.int .i64 100)) (p:=⟨w1.heap.size,16,none⟩) (by simp only;omega) (.int .i64 3))
 have HL5:=Lib.hid (show ((cs.set 17 (.int .i64 100)).set 16 (.int .i64 3)).length=33 by rw [List.length_set,List.length_set];exact HL.out)
 clear X4 hC HX3 HB3 HK3 HJ H1
 go_wp2_with fail
 obtain ⟨w5,hw5⟩:∃ w5,(w3.setCell ⟨w1.heap.size,17,none⟩ (.int .i64 100)).setCell ⟨w1.heap.size,16,none⟩ (.int .i64 3)=w5:=⟨_,rfl⟩
 obtain ⟨ds,hds⟩:∃ ds,(cs.set 17 (.int .i64 100)).set 16 (.int .i64 3)=ds:=⟨_,rfl⟩
 have J6:Hid (JobA w5 ds styJ):=Lib.hid (by rw [←hw5,←hds];exact J5.out)
 rw [hw5,hds] at X5
 rw [hw5] at B5 ⊢
 rw [hds] at HL5
 clear hw5 hds J5 c17 f3 c16 f4 HL
 refine (HKP.out 3 _ (by unfold I64;omega)).mono ?_
 rw [sty_plates]
 rintro e w6 ⟨rfl,hb⟩
 have X6:=Lib.hid (X5.out.later (by rw [HL5.out];decide) hb)
 have J7:=Lib.hid (J6.out.up hb)
 have B6:=Lib.hid (up_trans B5.out hb)
 clear hb X5 J6 B5
 go_wp2_with (refine wpList_load_job_want _ rfl rfl w1.heap.size rfl ds X6.out HL5.out ?_;simp only [Act.put,List.setIfInBounds_toArray,List.set_cons_succ,List.set_cons_zero])
 refine (HKF.out ds styJ _ J7.out).mono ?_
 rw [sty_flip]
 rintro e w7 ⟨rfl,hb⟩
 have B7:=Lib.hid (up_trans B6.out hb)
 clear hb X6 J7 B6
 unfold plV
 simp only
 have KD:=fun w=>refPdo_any 4 100 0 30 0 w (by decide) (by decide) (by decide) (by decide)
 rw [sty_do] at KD
 have HD:=Lib.hid KD
 clear KD
 go_wp2_with fail
 refine (HD.out _).mono ?_
 rintro e w8 ⟨rfl,hb⟩
 have B8:=Lib.hid (up_trans B7.out hb)
 clear hb
 go_wp2
 go_ret
 exact ⟨rfl,B8.out⟩
end Go.Proofs.Ytobpfncglbhcmaa
