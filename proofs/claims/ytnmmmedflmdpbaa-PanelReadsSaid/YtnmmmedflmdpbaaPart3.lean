/- Part 3 of the texts that the proofs of this seat share: OpenJob, JobWant, PanelSpec, PlaceRef, RefBack, RefPanel, RefOnto, BoxCode, BoxSums, PlaceAlive. -/
import Derived.Test.YtnmmmedflmdpbaaPart2
import Derived.SliceStrings
import Derived.Test.YtnmmmedflmdpbaaPart1
import Derived.Deep.DeepCutAuto
import Derived.Test.YtnmmmedflmdpbaaProg
import Derived.WalkKit
import Derived.WalkSpells
import Derived.WalkLawsBesides
import Derived.Lib.Hide
import Derived.Outline
import Derived.Below
import Derived.Deep.RegionHeld3
import Derived.Deep.Light
import Derived.IntWalk
import Derived.Deep.QuietTactic
import Derived.BigQuiet
set_option linter.unusedSimpArgs false
set_option linter.unusedVariables false
namespace Go.Proofs.Ytnmmmedflmdpbaa
open Go.RowKit Go.Deep Go.ChangeShapes Go.WideShapes
set_option maxRecDepth 100000
section
variable {H:Type} {enc:TypeId×Value→H} {w:World} {base:Nat} {spare:Nat→Bool} {held:Bool}
theorem textsA_of (a:Option Addr) (len cap:Nat) (w:World)
  (h:(a=none∧len=0∧cap=0)∨∃ x,a=some x∧len≤cap∧cap≤maxLen∧∀ i,i<len→∃ z:ByteArray,w.cell? (x.add i)=some (.string z)∧z.size≤maxLen) :
  ∃ ls:List (List UInt8),ls.length=len∧TxA w a cap ls∧∀ x∈ls,x.length≤maxLen:=by
 rcases h with ⟨rfl,rfl,rfl⟩ | ⟨x,rfl,hl,hm,hc⟩
 ·exact ⟨[],rfl,.inl rfl,by simp⟩
 ·by_cases h0:len=0
  ·subst h0;exact ⟨[],rfl,.inl rfl,by simp⟩
  obtain ⟨b,off,spot⟩:=x
  have hspot:spot=none:=by
   obtain ⟨z,hz,_⟩:=hc 0 (by omega)
   simpa [Addr.add] using World.cell?_spot hz
  subst hspot
  obtain ⟨l,e,hq⟩:=list_of (Q:=fun i (p:List UInt8)=>w.cell? ⟨b,off+i,none⟩=some (.string (tx p))∧p.length≤maxLen) len (fun i hi=>by
   obtain ⟨z,h1,h2⟩:=hc i hi
   rw [Go.WideShapes.add_plain] at h1
   exact ⟨z.data.toList,by rw [tx_data];exact h1,by rw [size_data];exact h2⟩)
  refine ⟨l,e,.inr ⟨b,off,rfl,fun i p hp=>(hq i p hp).1,by omega,hm⟩,fun p hp=>?_⟩
  obtain ⟨i,hi⟩:=List.getElem?_of_mem hp
  exact (hq i p hi).2
theorem open_jobF {fuel:Nat} {cs:List Value} {x:DataW H×List MemPlace} (hl:cs.length=33) (h:DataW.trod enc Try.prog w base spare held fuel 29 cs=some x) :
  ∃ j:Jb,(JobA w cs j∧j.t.length≤maxLen∧∀ p∈j.ls,p.length≤maxLen)∧(∀ i,-9223372036854775808≤j.n i∧j.n i≤9223372036854775807)∧j.f.c≤9223372036854775807∧j.f.r≤9223372036854775807:=by
 obtain ⟨z0,h0,g0⟩:=trod_int_field (i:=1) (o:=1) (by kernel_rfl) (by omega) h
 obtain ⟨z3,h3,g3⟩:=trod_int_field (i:=3) (o:=4) (by kernel_rfl) (by omega) h
 obtain ⟨z4,h4,g4⟩:=trod_int_field (i:=4) (o:=5) (by kernel_rfl) (by omega) h
 obtain ⟨z5,h5,g5⟩:=trod_int_field (i:=5) (o:=6) (by kernel_rfl) (by omega) h
 obtain ⟨z6,h6,g6⟩:=trod_int_field (i:=6) (o:=7) (by kernel_rfl) (by omega) h
 obtain ⟨z7,h7,g7⟩:=trod_int_field (i:=7) (o:=8) (by kernel_rfl) (by omega) h
 obtain ⟨z8,h8,g8⟩:=trod_int_field (i:=8) (o:=9) (by kernel_rfl) (by omega) h
 obtain ⟨z9,h9,g9⟩:=trod_int_field (i:=9) (o:=10) (by kernel_rfl) (by omega) h
 obtain ⟨z10,h10,g10⟩:=trod_int_field (i:=10) (o:=11) (by kernel_rfl) (by omega) h
 obtain ⟨z11,h11,g11⟩:=trod_int_field (i:=13) (o:=16) (by kernel_rfl) (by omega) h
 obtain ⟨z12,h12,g12⟩:=trod_int_field (i:=14) (o:=17) (by kernel_rfl) (by omega) h
 obtain ⟨z13,h13,g13⟩:=trod_int_field (i:=15) (o:=18) (by kernel_rfl) (by omega) h
 obtain ⟨z14,h14,g14⟩:=trod_int_field (i:=16) (o:=19) (by kernel_rfl) (by omega) h
 obtain ⟨z15,h15,g15⟩:=trod_int_field (i:=17) (o:=20) (by kernel_rfl) (by omega) h
 obtain ⟨z16,h16,g16⟩:=trod_int_field (i:=18) (o:=21) (by kernel_rfl) (by omega) h
 obtain ⟨z17,h17,g17⟩:=trod_int_field (i:=19) (o:=22) (by kernel_rfl) (by omega) h
 obtain ⟨z18,h18,g18⟩:=trod_int_field (i:=20) (o:=23) (by kernel_rfl) (by omega) h
 obtain ⟨z19,h19,g19⟩:=trod_int_field (i:=21) (o:=24) (by kernel_rfl) (by omega) h
 obtain ⟨z20,h20,g20⟩:=trod_int_field (i:=22) (o:=25) (by kernel_rfl) (by omega) h
 obtain ⟨z21,h21,g21⟩:=trod_int_field (i:=23) (o:=26) (by kernel_rfl) (by omega) h
 obtain ⟨z22,h22,g22⟩:=trod_int_field (i:=24) (o:=27) (by kernel_rfl) (by omega) h
 obtain ⟨z23,h23,g23⟩:=trod_int_field (i:=25) (o:=28) (by kernel_rfl) (by omega) h
 obtain ⟨z24,h24,g24⟩:=trod_int_field (i:=26) (o:=29) (by kernel_rfl) (by omega) h
 obtain ⟨z25,h25,g25⟩:=trod_int_field (i:=27) (o:=30) (by kernel_rfl) (by omega) h
 obtain ⟨z26,h26,g26⟩:=trod_int_field (i:=28) (o:=31) (by kernel_rfl) (by omega) h
 obtain ⟨z27,h27,g27⟩:=trod_int_field (i:=29) (o:=32) (by kernel_rfl) (by omega) h
 obtain ⟨mb,yb,gb⟩:=trod_at (i:=2) (o:=2) (ft:=23) (by kernel_rfl) h
 rw [show Try.prog.cellsOf 23=2 by kernel_rfl] at gb
 obtain ⟨z1,h1,g1⟩:=trod_int_field (i:=0) (o:=0) (by kernel_rfl) (by rw [List.length_take,List.length_drop];omega) gb
 obtain ⟨z2,h2,g2⟩:=trod_int_field (i:=1) (o:=1) (by kernel_rfl) (by rw [List.length_take,List.length_drop];omega) gb
 obtain ⟨mf,yf,gf⟩:=trod_at (i:=11) (o:=12) (ft:=26) (by kernel_rfl) h
 rw [show Try.prog.cellsOf 26=3 by kernel_rfl] at gf
 obtain ⟨c,hc,gc⟩:=trod_int_field (i:=0) (o:=0) (by kernel_rfl) (by rw [List.length_take,List.length_drop];omega) gf
 obtain ⟨r,hr,gr⟩:=trod_int_field (i:=1) (o:=1) (by kernel_rfl) (by rw [List.length_take,List.length_drop];omega) gf
 obtain ⟨ms,ys,gs⟩:=trod_at (i:=2) (o:=2) (ft:=24) (by kernel_rfl) gf
 rw [show Try.prog.cellsOf 24=1 by kernel_rfl,take_take_drop (by omega)] at gs
 obtain ⟨ml,yl,gl⟩:=trod_at (i:=12) (o:=15) (ft:=27) (by kernel_rfl) h
 rw [show Try.prog.cellsOf 27=1 by kernel_rfl] at gl
 obtain ⟨mt,yt,gt⟩:=trod_at (i:=0) (o:=0) (ft:=9) (by kernel_rfl) h
 rw [show Try.prog.cellsOf 9=1 by kernel_rfl] at gt
 obtain ⟨T,hT,_,hTz⟩:=DataW.trod_string Try.underlying9 gt
 have hT0:cs[0]?=some (.string T):=by
  have:((cs.drop 0).take 1)[0]?=some (.string T):=by rw [hT];rfl
  simpa using this
 obtain ⟨a,len,cap,es,ws⟩:∃ (a:Option Addr) (len cap:Nat),(cs.drop 14).take 1=[Value.slice a len cap]∧((a=none∧len=0∧cap=0)∨∃ x,a=some x∧len≤cap∧cap≤maxLen∧∀ i,i<len→(∃ z,w.cell? (x.add (i*3+0))=some (.int .i64 z)∧(Lit.int .i64 z).wf=true)∧(∃ z,w.cell? (x.add (i*3+1))=some (.int .i64 z)∧(Lit.int .i64 z).wf=true)∧(∃ z,w.cell? (x.add (i*3+2))=some (.bool z))):=by
  rcases open_cell_structs Try.underlying24 Try.underlying74 (by kernel_rfl) (by kernel_rfl) gs with hcs | ⟨x,l,c,hcs,hl,hm,hV⟩
  ·exact ⟨none,0,0,hcs,.inl ⟨rfl,rfl,rfl⟩⟩
  ·exact ⟨some x,l,c,hcs,.inr ⟨x,rfl,hl,hm,fun i hi=>⟨fit_int Try.underlying3 (hV i hi 0 _ rfl),fit_int Try.underlying3 (hV i hi 1 _ rfl),fit_bool Try.underlying4 (hV i hi 2 _ rfl)⟩⟩⟩
 obtain ⟨a',len',cap',el,wl⟩:∃ (a:Option Addr) (len cap:Nat),(cs.drop 15).take 1=[Value.slice a len cap]∧((a=none∧len=0∧cap=0)∨∃ x,a=some x∧len≤cap∧cap≤maxLen∧∀ i,i<len→∃ z:ByteArray,w.cell? (x.add i)=some (.string z)∧z.size≤maxLen):=by
  rcases open_strings Try.underlying27 Try.underlying9 (by kernel_rfl) gl with ⟨hcs,_⟩ | ⟨x,l,c,ss,hcs,_,hl,hm,hz,_,hcell,hwz⟩
  ·exact ⟨none,0,0,hcs,.inl ⟨rfl,rfl,rfl⟩⟩
  ·refine ⟨some x,l,c,hcs,.inr ⟨x,rfl,hl,hm,fun i hi=>?_⟩⟩
   have hlen:i<ss.length:=by rw [hz];split<;>omega
   exact ⟨_,hcell i hlen,hwz _ (by simp [List.getD_eq_getElem?_getD,List.getElem?_eq_getElem hlen])⟩
 have e14:cs[14]?=some (.slice a len cap):=by
  have:((cs.drop 14).take 1)[0]?=some (.slice a len cap):=by rw [es];rfl
  simpa using this
 have e15:cs[15]?=some (.slice a' len' cap'):=by
  have:((cs.drop 15).take 1)[0]?=some (.slice a' len' cap'):=by rw [el];rfl
  simpa using this
 have e2:cs[2]?=some (.int .i64 z1):=by simpa using h1
 have e3:cs[3]?=some (.int .i64 z2):=by simpa using h2
 have e12:cs[12]?=some (.int .i64 c):=by simpa using hc
 have e13:cs[13]?=some (.int .i64 r):=by simpa using hr
 obtain ⟨l,hll,hI⟩:=steps_of a len cap w ws
 obtain ⟨ls,hls,hA,hz⟩:=textsA_of a' len' cap' w wl
 subst hll hls
 have hall:∀ z∈[z0,z1,z2,z3,z4,z5,z6,z7,z8,z9,z10,z11,z12,z13,z14,z15,z16,z17,z18,z19,z20,z21,z22,z23,z24,z25,z26,z27],-9223372036854775808≤z∧z≤9223372036854775807:=by
  simp only [List.mem_cons,List.not_mem_nil,or_false,forall_eq_or_imp,forall_eq]
  exact ⟨wf_int g0,wf_int g1,wf_int g2,wf_int g3,wf_int g4,wf_int g5,wf_int g6,wf_int g7,wf_int g8,wf_int g9,wf_int g10,wf_int g11,wf_int g12,wf_int g13,wf_int g14,wf_int g15,wf_int g16,wf_int g17,wf_int g18,wf_int g19,wf_int g20,wf_int g21,wf_int g22,wf_int g23,wf_int g24,wf_int g25,wf_int g26,wf_int g27⟩
 obtain ⟨n,hn⟩:∃ n:Nat→Int,n=fun i=>([z0,z1,z2,z3,z4,z5,z6,z7,z8,z9,z10,z11,z12,z13,z14,z15,z16,z17,z18,z19,z20,z21,z22,z23,z24,z25,z26,z27]:List Int).getD i 0:=⟨_,rfl⟩
 refine ⟨⟨T.data.toList,n,⟨c,r,l⟩,ls⟩,⟨⟨a,cap,a',cap',?_,hI,hA⟩,by simp only;rw [size_data];exact hTz,hz⟩,(fun i=>by
  simp only [hn,List.getD_eq_getElem?_getD]
  by_cases hi:i < [z0,z1,z2,z3,z4,z5,z6,z7,z8,z9,z10,z11,z12,z13,z14,z15,z16,z17,z18,z19,z20,z21,z22,z23,z24,z25,z26,z27].length
  ·rw [List.getElem?_eq_getElem hi]
   exact hall _ (List.getElem_mem hi)
  ·rw [List.getElem?_eq_none (by omega)]
   decide),(wf_int gc).2,(wf_int gr).2⟩
 rw [tx_data]
 subst hn
 apply List.ext_getElem?
 intro k
 by_cases hk:k<33
 ·have hw:k=0∨k=1∨k=2∨k=3∨k=4∨k=5∨k=6∨k=7∨k=8∨k=9∨k=10∨k=11∨k=12∨k=13∨k=14∨k=15∨k=16∨k=17∨k=18∨k=19∨k=20∨k=21∨k=22∨k=23∨k=24∨k=25∨k=26∨k=27∨k=28∨k=29∨k=30∨k=31∨k=32:=by omega
  rcases hw with rfl | rfl | rfl | rfl | rfl | rfl | rfl | rfl | rfl | rfl | rfl | rfl | rfl | rfl | rfl | rfl | rfl | rfl | rfl | rfl | rfl | rfl | rfl | rfl | rfl | rfl | rfl | rfl | rfl | rfl | rfl | rfl | rfl
  all_goals first
   | exact hT0
   | exact e2
   | exact e3
   | exact e12
   | exact e13
   | exact e14
   | exact e15
   | exact h0
   | exact h3
   | exact h4
   | exact h5
   | exact h6
   | exact h7
   | exact h8
   | exact h9
   | exact h10
   | exact h11
   | exact h12
   | exact h13
   | exact h14
   | exact h15
   | exact h16
   | exact h17
   | exact h18
   | exact h19
   | exact h20
   | exact h21
   | exact h22
   | exact h23
   | exact h24
   | exact h25
   | exact h26
   | exact h27
 ·rw [List.getElem?_eq_none (by omega),List.getElem?_eq_none (by rw [jobL_length];omega)]
theorem open_jobW {fuel:Nat} {cs:List Value} {x:DataW H×List MemPlace} (hl:cs.length=33) (h:DataW.trod enc Try.prog w base spare held fuel 29 cs=some x) :
  ∃ j:Jb,(JobA w cs j∧j.t.length≤maxLen∧∀ p∈j.ls,p.length≤maxLen)∧∀ i,-9223372036854775808≤j.n i∧j.n i≤9223372036854775807:=by
 obtain ⟨j,h1,h2,-⟩:=open_jobF hl h
 exact ⟨j,h1,h2⟩
theorem open_job {fuel:Nat} {cs:List Value} {x:DataW H×List MemPlace} (hl:cs.length=33) (h:DataW.trod enc Try.prog w base spare held fuel 29 cs=some x) :
  ∃ j:Jb,JobA w cs j∧j.t.length≤maxLen∧∀ p∈j.ls,p.length≤maxLen:=by
 obtain ⟨j,hj,-⟩:=open_jobW hl h
 exact ⟨j,hj⟩
end
end Go.Proofs.Ytnmmmedflmdpbaa
namespace Go.Proofs.Ytnmmmedflmdpbaa
open Go.RowKit
section
variable {ops:Array Oper} {rest:List Oper} {o:Oper} {a:Act} {w:World} {Q:Exit→Act→World→Prop} {C:World→Prop} {K:Act→Prop}
theorem wpList_load_job_want (x:Operand) (ho:o.op=.load 29 x) (hw:Region.wanted o (yielded ops a.tmps)=true) (b:Nat) (hx:a.eval x=.pointer (some ⟨b,0,none⟩)) (cs:List Value) (hb:Bx w b cs) (hl:cs.length=33)
  (h:wpList Try.prog ops Q rest (a.put o.dst (.agg cs.toArray)) w):wpList Try.prog ops Q (o :: rest) a w:=by
 unfold wpList
 rw [if_pos hw]
 refine .inl ?_
 unfold Oper.wp execOp
 simp only [ho,hx,Instr.loadAt,Instr.sureAddr,Sem.run_bind,Sem.run_pure,Result.andThen_ok,run_loadVar_mid w b 0 29 cs _ hb.range Try.underlying29 rfl (by rw [hl];exact infoJob)]
 exact h
end
end Go.Proofs.Ytnmmmedflmdpbaa
namespace Go.Proofs.Ytnmmmedflmdpbaa
open Go.RowKit
def rcV (r:Int×Int×Int×Int):Value:=.agg #[.int .i64 r.1,.int .i64 r.2.1,.int .i64 r.2.2.1,.int .i64 r.2.2.2]
def plV (r:Int×Int×Int):Value:=.agg #[.int .i64 r.1,.int .i64 r.2.1,.int .i64 r.2.2]
def PanSize:Prop:=∀ (cs:List Value) (j:Jb) (w:World),JobA w cs j →
 Calls Try.prog 8 #[.agg cs.toArray] w fun e w'=>e=.returned (.tuple #[.int .i64 (sizW j.n),.int .i64 (sizH j.n)])∧Below w.heap.size w w'
def PanBlock:Prop:=∀ (cs:List Value) (j:Jb) (c r k:Int) (sa:Option Addr) (sn sc:Nat) (w:World),JobA w cs j→I64 c→I64 r→I64 k →
 Calls Try.prog 9 #[.agg cs.toArray,.agg #[.int .i64 c,.int .i64 r,.slice sa sn sc],.int .i64 k] w fun e w'=>e=.returned (.tuple #[.int .i64 (w64 (sizW j.n*c)),.int .i64 (w64 (sizH j.n*r*k))])∧Below w.heap.size w w'
def PanBox:Prop:=∀ (cs:List Value) (j:Jb) (c r k p:Int) (sa:Option Addr) (sn sc:Nat) (w:World),JobA w cs j→I64 c→I64 r→I64 k→I64 p →
 Calls Try.prog 10 #[.agg cs.toArray,.agg #[.int .i64 c,.int .i64 r,.slice sa sn sc],.int .i64 k,.int .i64 p] w fun e w'=>e=.returned (rcV (boxP j.n c r k p))∧Below w.heap.size w w'
def PanLies:Prop:=∀ (cs:List Value) (j:Jb) (c r k p lf:Int) (sa:Option Addr) (sn sc:Nat) (fx fy:Bool) (w:World),JobA w cs j→I64 c→I64 r→I64 k→I64 p →
 Calls Try.prog 11 #[.agg cs.toArray,.agg #[.int .i64 c,.int .i64 r,.slice sa sn sc],.int .i64 k,.int .i64 p,.agg #[.int .i64 lf,.bool fx,.bool fy]] w fun e w'=>e=.returned (plV (liesP j.n c r k p fx fy))∧Below w.heap.size w w'
def PanReader:Prop:=∀ (cs:List Value) (j:Jb) (recto:Bool) (w:World),JobA w cs j →
 Calls Try.prog 21 #[.agg cs.toArray,.bool recto] w fun e w'=>e=.returned (plV (readP j.n recto))∧Below w.heap.size w w'
def PanTrim:Prop:=∀ (cs:List Value) (j:Jb) (recto:Bool) (w:World),JobA w cs j →
 Calls Try.prog 17 #[.agg cs.toArray,.bool recto] w fun e w'=>e=.returned (rcV (trimP j.n recto))∧Below w.heap.size w w'
def PanClip:Prop:=∀ (cs:List Value) (j:Jb) (recto:Bool) (w:World),JobA w cs j→(∀ i,I64 (j.n i)) →
 Calls Try.prog 18 #[.agg cs.toArray,.bool recto] w fun e w'=>e=.returned (rcV (clipP j.n recto))∧Below w.heap.size w w'
def PanSource:Prop:=∀ (cs:List Value) (j:Jb) (recto:Bool) (q:Int) (w:World),JobA w cs j→I64 q →
 Calls Try.prog 16 #[.agg cs.toArray,.bool recto,.int .i64 q] w fun e w'=>e=.returned (plV (sourceP j.n recto q))∧Below w.heap.size w w'
theorem usu_size:sizW usualN=153000∧sizH usualN=220000:=by decide +kernel
theorem usu_lies:liesP usualN 2 2 0 0 false false=(0,0,0):=by decide +kernel
theorem usu_trim:trimP usualN false=(5000,5000,153000,215000):=by decide +kernel
theorem wf_i64 {z:Int} (h:(Lit.int .i64 z).wf=true):I64 z:=wf_int h
set_option maxRecDepth 100000 in
set_option maxHeartbeats 1000000 in
theorem panAlive_any (KS:PanSize) (KL:PanLies) (KT:PanTrim) (w:World):Calls Try.prog 6 #[] w fun e w'=>e=.returned (.bool true)∧Below w.heap.size w w':=by
 have HU:=Lib.hid (refUsual_any w)
 have HKS:=Lib.hid KS;have HKL:=Lib.hid KL;have HKT:=Lib.hid KT
 clear KS KL KT
 go_enter Try.func6,Try.ntmps6
 go_wp2_with fail
 refine HU.out.mono ?_
 rintro e w1 ⟨cs,rfl,hJ,hb⟩
 have hl:=hJ.jobA.length
 have HL:=Lib.hid hl
 have H1:=Lib.hid hJ.jobA.one
 have HZ:=Lib.hid (Bx.new w1 29 zeroL)
 have HJ:=Lib.hid hJ
 have HB:=Lib.hid (up_alloc hb (.cells zeroL.toArray 29))
 have HK:=Lib.hid (show ∀ p:Addr,p.block≠w1.heap.size→∀ v,w1.cell? p=some v→(w1.alloc (.cells zeroL.toArray 29)).cell? p=some v from fun p _ v hv=>bl_cell (up_alloc (Below.refl _ w1) _) hv)
 have hlow:=hb.size
 clear hJ hl hb
 go_wp2_with (first
  | (refine wpList_alloc_to rfl 29 rfl _ _ (job_alloc _) ?_;simp only [Act.put,List.setIfInBounds_toArray,List.set_cons_succ,List.set_cons_zero];obtain ⟨w2,hw2⟩:∃ w2,w1.alloc (.cells zeroL.toArray 29)=w2:=⟨_,rfl⟩;rw [hw2] at HZ HB HK ⊢;clear hw2)
  | (refine wpList_store_job rfl _ _ rfl w1.heap.size rfl zeroL cs rfl HZ.out rfl HL.out H1.out ?_;simp only [Act.put];refine wpList_nil ?_;rename_i hK;refine hK _ _ ?_;clear hK;refine Hid.out ?_))
 refine Lib.hid ?_
 have HX3:=Lib.hid (HZ.out.sets (ws:=cs) (by rw [HL.out];rfl))
 have HB3:=Lib.hid (below_setCells (show w.heap.size≤w1.heap.size from hlow) cs 0 _ HB.out)
 have HJ3:=Lib.hid (usual_kept HJ.out.jobA (w':=w2.setCells w1.heap.size 0 cs) (B:=w1.heap.size) (Nat.le_refl _) (fun p hp v hv=>keep_sets _ w1.heap.size 0 cs p hp v (HK.out p hp v hv)))
 obtain ⟨w3,hw3⟩:∃ w3,w2.setCells w1.heap.size 0 cs=w3:=⟨_,rfl⟩
 rw [hw3] at HX3 HB3 HJ3 ⊢
 clear hw3 HZ HB HK HJ
 obtain ⟨a,c,a',c',e,hI,hT⟩:=HJ3.out
 have b12:=HX3.out.cell 12 (show cs[12]?=some (.int .i64 2) by rw [e];rfl)
 have b13:=HX3.out.cell 13 (show cs[13]?=some (.int .i64 2) by rw [e];rfl)
 have b14:=HX3.out.cell 14 (show cs[14]?=some (.slice a 2 c) by rw [e];rfl)
 clear e hI hT
 go_wp2_with (refine wpList_load_job rfl _ rfl w1.heap.size rfl cs HX3.out HL.out ?_;simp only [Act.put,List.setIfInBounds_toArray,List.set_cons_succ,List.set_cons_zero])
 refine (HKL.out cs usualJ 2 2 0 0 0 a 2 c false false _ HJ3.out (by unfold I64;omega) (by unfold I64;omega) (by unfold I64;omega) (by unfold I64;omega)).mono ?_
 rw [show usualJ.n=usualN from rfl,usu_lies]
 rintro e w4 ⟨rfl,hb⟩
 have O:=up_alloc (Below.refl _ w4) (.cells #[.int .i64 0,.int .i64 0,.int .i64 0] 40)
 have HX4:=Lib.hid ((HX3.out.later (by rw [HL.out];decide) hb).later (by rw [HL.out];decide) O)
 have HJ4:=Lib.hid ((HJ3.out.up hb).up O)
 have HB4:=Lib.hid (up_trans (up_trans HB3.out hb) O)
 have P4:=Bx.new w4 40 [.int .i64 0,.int .i64 0,.int .i64 0]
 clear hb O b12 b13 b14
 unfold plV
 simp only
 go_wp2_with (refine wpList_load_job rfl _ rfl w1.heap.size rfl cs HX4.out HL.out ?_;simp only [Act.put,List.setIfInBounds_toArray,List.set_cons_succ,List.set_cons_zero])
 refine (HKS.out cs usualJ _ HJ4.out).mono ?_
 rw [show usualJ.n=usualN from rfl,usu_size.1,usu_size.2]
 rintro e w5 ⟨rfl,hb⟩
 have HX5:=Lib.hid (HX4.out.later (by rw [HL.out];decide) hb)
 have HJ5:=Lib.hid (HJ4.out.up hb)
 have HB5:=Lib.hid (up_trans HB4.out hb)
 have P5:=P4.up hb
 have p0:=P5.cell 0 rfl;have p1:=P5.cell 1 rfl;have p2:=P5.cell 2 rfl
 clear hb P4 P5
 go_wp2_with (refine wpList_load_job_want _ rfl rfl w1.heap.size rfl cs HX5.out HL.out ?_;simp only [Act.put,List.setIfInBounds_toArray,List.set_cons_succ,List.set_cons_zero])
 refine (HKT.out cs usualJ false _ HJ5.out).mono ?_
 rw [show usualJ.n=usualN from rfl,usu_trim]
 rintro e w6 ⟨rfl,hb⟩
 have HB6:=Lib.hid (up_trans HB5.out hb)
 clear hb
 unfold rcV
 simp only
 have q:=fun w=>(show (Instr.field 37 (.agg #[.int .i64 5000,.int .i64 5000,.int .i64 153000,.int .i64 215000]) 0).run Try.prog w=.ok (.int .i64 5000) w from by kernel_rfl)
 go_wp2
 go_ret
 exact ⟨rfl,HB6.out⟩
theorem refPdo_core (t X Y x y a b c d p q s1 s2:Int) (w:World) (e1:IntKind.i64.wrap (p+X)=s1) (e2:IntKind.i64.wrap (q+Y)=s2)
  (KO:∀ w,Calls Try.prog 34 #[.int .i64 t] w fun e w'=>e=.returned (.agg #[.int .i64 a,.int .i64 b,.int .i64 c,.int .i64 d])∧Below w.heap.size w w')
  (KD:∀ w,Calls Try.prog 35 #[.agg #[.int .i64 a,.int .i64 b,.int .i64 c,.int .i64 d],.int .i64 x,.int .i64 y] w fun e w'=>e=.returned (.tuple #[.int .i64 p,.int .i64 q])∧Below w.heap.size w w') :
  Calls Try.prog 20 #[.agg #[.int .i64 t,.int .i64 X,.int .i64 Y],.agg #[.int .i64 x,.int .i64 y]] w fun e w'=>e=.returned (.agg #[.int .i64 s1,.int .i64 s2])∧Below w.heap.size w w':=by
 have HO:=Lib.hid KO;have HD:=Lib.hid KD
 clear KO KD
 go_enter Try.func20,Try.ntmps20
 go_wp2_with fail
 have A:=((Bx.new w 40 [.int .i64 t,.int .i64 X,.int .i64 Y]).alloc (.cells #[.int .i64 x,.int .i64 y] 23)).alloc (.cells #[.int .i64 0,.int .i64 0] 23)
 have C:=(Bx.new (w.alloc (.cells #[.int .i64 t,.int .i64 X,.int .i64 Y] 40)) 23 [.int .i64 x,.int .i64 y]).alloc (.cells #[.int .i64 0,.int .i64 0] 23)
 have R:=Bx.new ((w.alloc (.cells #[.int .i64 t,.int .i64 X,.int .i64 Y] 40)).alloc (.cells #[.int .i64 x,.int .i64 y] 23)) 23 [.int .i64 0,.int .i64 0]
 simp only [World.size_alloc] at C R
 have B1:=up_alloc (up_alloc (up_alloc (Below.refl _ w) (.cells #[.int .i64 t,.int .i64 X,.int .i64 Y] 40)) (.cells #[.int .i64 x,.int .i64 y] 23)) (.cells #[.int .i64 0,.int .i64 0] 23)
 generalize ((w.alloc (.cells #[.int .i64 t,.int .i64 X,.int .i64 Y] 40)).alloc (.cells #[.int .i64 x,.int .i64 y] 23)).alloc (.cells #[.int .i64 0,.int .i64 0] 23)=w1 at *
 have HB:=Lib.hid B1;clear B1
 have a0:=fun u:Later w1=>u.cell (A.cell 0 rfl);have a1:=fun u:Later w1=>u.cell (A.cell 1 rfl);have a2:=fun u:Later w1=>u.cell (A.cell 2 rfl)
 have c0:=fun u:Later w1=>u.cell (C.cell 0 rfl);have c1:=fun u:Later w1=>u.cell (C.cell 1 rfl)
 clear A C
 refine later_start (w:=w1) ?_
 intro u
 refine wp_region_later (by kernel_rfl) (by kernel_rfl) ?_
 repeat (go_big_quiet_step (first
  | (go_at_call 34;with_reducible exact Later.call (HO.out _))
  | (go_at_call 35;with_reducible exact Later.call (HD.out _))))
 refine wpQuiet_nil ?_
 rintro _ ⟨u2,rfl⟩
 have R2:=R.up u2.up
 have a1':=a1 u2;have a2':=a2 u2
 have B:=up_trans HB.out u2.up
 have r0:=R2.cell 0 rfl;have r1:=R2.cell 1 rfl;have rf:=R2.free
 clear R R2 a0 a1 a2 c0 c1
 generalize u2.now=w2 at *
 go_wp2
 refine bodyPost_ret (v:=.agg #[.int .i64 s1,.int .i64 s2]) (by simp [results,Try.results20,go_sem,r0,r1]) rfl ⟨rfl,?_⟩
 repeat (first | (with_reducible exact B) | (with_reducible apply up_alloc) | (with_reducible refine up_set ?_ (by simp only;omega) _))
theorem refPdo_any (t X Y x y:Int) (w:World) (h0:-9223372036854775808≤x) (h1:x≤9223372036854775807) (k0:-9223372036854775808≤y) (k1:y≤9223372036854775807) :
  Calls Try.prog 20 #[.agg #[.int .i64 t,.int .i64 X,.int .i64 Y],.agg #[.int .i64 x,.int .i64 y]] w fun e w'=>e=.returned (.agg #[.int .i64 (pdo t X Y x y).1,.int .i64 (pdo t X Y x y).2])∧Below w.heap.size w w':=by
 obtain ⟨i,hi⟩:=fin8 t
 have e:=mat_does i x y h0 h1 k0 k1
 refine refPdo_core t X Y x y (mx (i.val:Int)).a (mx (i.val:Int)).b (mx (i.val:Int)).c (mx (i.val:Int)).d (doT (i.val:Int) x y).1 (doT (i.val:Int) x y).2 _ _ w ?_ ?_ ?_ ?_
 ·unfold pdo add64;rw [hi]
 ·unfold pdo add64;rw [hi]
 ·intro w;have:=refTurnOf_any t w;rwa [hi] at this
 ·intro w;have:=refDo_any (mx (i.val:Int)) x y w;rwa [e] at this
theorem refPbox_core (t X Y x0 y0 x1 y1 p0 p1 q0 q1 m0 m1 m2 m3:Int) (w:World)
  (KP:∀ w,Calls Try.prog 20 #[.agg #[.int .i64 t,.int .i64 X,.int .i64 Y],.agg #[.int .i64 x0,.int .i64 y0]] w fun e w'=>e=.returned (.agg #[.int .i64 p0,.int .i64 p1])∧Below w.heap.size w w')
  (KQ:∀ w,Calls Try.prog 20 #[.agg #[.int .i64 t,.int .i64 X,.int .i64 Y],.agg #[.int .i64 x1,.int .i64 y1]] w fun e w'=>e=.returned (.agg #[.int .i64 q0,.int .i64 q1])∧Below w.heap.size w w')
  (L0:∀ w,Calls Try.prog 42 #[.int .i64 p0,.int .i64 q0] w fun e w'=>e=.returned (.int .i64 m0)∧Below w.heap.size w w')
  (L1:∀ w,Calls Try.prog 42 #[.int .i64 p1,.int .i64 q1] w fun e w'=>e=.returned (.int .i64 m1)∧Below w.heap.size w w')
  (G0:∀ w,Calls Try.prog 43 #[.int .i64 p0,.int .i64 q0] w fun e w'=>e=.returned (.int .i64 m2)∧Below w.heap.size w w')
  (G1:∀ w,Calls Try.prog 43 #[.int .i64 p1,.int .i64 q1] w fun e w'=>e=.returned (.int .i64 m3)∧Below w.heap.size w w') :
  Calls Try.prog 23 #[.agg #[.int .i64 t,.int .i64 X,.int .i64 Y],.agg #[.int .i64 x0,.int .i64 y0,.int .i64 x1,.int .i64 y1]] w fun e w'=>e=.returned (.agg #[.int .i64 m0,.int .i64 m1,.int .i64 m2,.int .i64 m3])∧Below w.heap.size w w':=by
 have HP:=Lib.hid KP;have HQ:=Lib.hid KQ;have HL0:=Lib.hid L0;have HL1:=Lib.hid L1;have HG0:=Lib.hid G0;have HG1:=Lib.hid G1
 clear KP KQ L0 L1 G0 G1
 go_enter Try.func23,Try.ntmps23
 go_wp2_with fail
 refine (HP.out _).mono ?_
 rintro e w1 ⟨rfl,hb⟩
 have A:=(((Bx.new w 40 [.int .i64 t,.int .i64 X,.int .i64 Y]).alloc (.cells #[.int .i64 x0,.int .i64 y0,.int .i64 x1,.int .i64 y1] 37)).alloc (.cells #[.int .i64 0,.int .i64 0,.int .i64 0,.int .i64 0] 37)).up hb
 have C:=((Bx.new (w.alloc (.cells #[.int .i64 t,.int .i64 X,.int .i64 Y] 40)) 37 [.int .i64 x0,.int .i64 y0,.int .i64 x1,.int .i64 y1]).alloc (.cells #[.int .i64 0,.int .i64 0,.int .i64 0,.int .i64 0] 37)).up hb
 have R:=(Bx.new ((w.alloc (.cells #[.int .i64 t,.int .i64 X,.int .i64 Y] 40)).alloc (.cells #[.int .i64 x0,.int .i64 y0,.int .i64 x1,.int .i64 y1] 37)) 37 [.int .i64 0,.int .i64 0,.int .i64 0,.int .i64 0]).up hb
 simp only [World.size_alloc] at C R
 have B1:=Lib.hid (up_trans (up_alloc (up_alloc (up_alloc (Below.refl _ w) _) _) _) hb)
 clear hb
 have A':=A.alloc (.cells #[.int .i64 p0,.int .i64 p1] 23)
 have C':=C.alloc (.cells #[.int .i64 p0,.int .i64 p1] 23)
 have R':=R.alloc (.cells #[.int .i64 p0,.int .i64 p1] 23)
 have P':=Bx.new w1 23 [.int .i64 p0,.int .i64 p1]
 have a0:=A'.cell 0 rfl;have a1:=A'.cell 1 rfl;have a2:=A'.cell 2 rfl
 have c2:=C'.cell 2 rfl;have c3:=C'.cell 3 rfl
 clear A C R A' C'
 go_wp2_with fail
 refine (HQ.out _).mono ?_
 rintro e w2 ⟨rfl,hb⟩
 have P2:=(P'.up hb).alloc (.cells #[.int .i64 q0,.int .i64 q1] 23)
 have R2:=(R'.up hb).alloc (.cells #[.int .i64 q0,.int .i64 q1] 23)
 have Q2:=Bx.new w2 23 [.int .i64 q0,.int .i64 q1]
 have B3:=up_alloc (up_trans (up_alloc B1.out _) hb) (.cells #[.int .i64 q0,.int .i64 q1] 23)
 clear hb R' P' a0 a1 a2 c2 c3
 go_wp2_with fail
 generalize w2.alloc (.cells #[.int .i64 q0,.int .i64 q1] 23)=w3 at *
 have HB:=Lib.hid B3;clear B3
 have d0:=fun u:Later w3=>u.cell (P2.cell 0 rfl);have d1:=fun u:Later w3=>u.cell (P2.cell 1 rfl)
 have f0:=fun u:Later w3=>u.cell (Q2.cell 0 rfl);have f1:=fun u:Later w3=>u.cell (Q2.cell 1 rfl)
 clear P2 Q2
 refine later_start (w:=w3) ?_
 intro u
 refine wp_region_later_tail 21 (by kernel_rfl) (by kernel_rfl) ?_
 simp only [List.take_succ_cons,List.take_zero,List.drop_succ_cons,List.drop_zero]
 repeat (go_big_quiet_step (first
  | (go_at_call 42;first | (with_reducible exact Later.call (HL0.out _)) | (with_reducible exact Later.call (HL1.out _)))
  | (go_at_call 43;first | (with_reducible exact Later.call (HG0.out _)) | (with_reducible exact Later.call (HG1.out _)))))
 refine wpQuiet_nil ?_
 rintro _ ⟨u2,rfl⟩
 clear d0 d1 f0 f1
 have R3:=R2.up u2.up
 have B:=up_trans HB.out u2.up
 have r0:=R3.cell 0 rfl;have r1:=R3.cell 1 rfl;have r2:=R3.cell 2 rfl;have r3:=R3.cell 3 rfl;have rf:=R3.free
 clear R2 R3
 generalize u2.now=w4 at *
 go_wp2
 refine bodyPost_ret (v:=.agg #[.int .i64 m0,.int .i64 m1,.int .i64 m2,.int .i64 m3]) (by simp [results,Try.results23,go_sem,r0,r1,r2,r3]) rfl ⟨rfl,?_⟩
 repeat (first | (with_reducible exact B) | (with_reducible apply up_alloc) | (with_reducible refine up_set ?_ (by simp only;omega) _))
theorem refPbox_any (t X Y x0 y0 x1 y1:Int) (w:World) (h0:(Lit.int .i64 x0).wf=true) (h1:(Lit.int .i64 y0).wf=true) (h2:(Lit.int .i64 x1).wf=true) (h3:(Lit.int .i64 y1).wf=true) :
  Calls Try.prog 23 #[.agg #[.int .i64 t,.int .i64 X,.int .i64 Y],.agg #[.int .i64 x0,.int .i64 y0,.int .i64 x1,.int .i64 y1]] w fun e w'=>e=.returned (.agg #[.int .i64 (min (pdo t X Y x0 y0).1 (pdo t X Y x1 y1).1),.int .i64 (min (pdo t X Y x0 y0).2 (pdo t X Y x1 y1).2),.int .i64 (max (pdo t X Y x0 y0).1 (pdo t X Y x1 y1).1),.int .i64 (max (pdo t X Y x0 y0).2 (pdo t X Y x1 y1).2)])∧Below w.heap.size w w' :=
 refPbox_core t X Y x0 y0 x1 y1 _ _ _ _ _ _ _ _ w
  (fun w=>refPdo_any t X Y x0 y0 w (bounds_i64 h0).1 (bounds_i64 h0).2 (bounds_i64 h1).1 (bounds_i64 h1).2) (fun w=>refPdo_any t X Y x1 y1 w (bounds_i64 h2).1 (bounds_i64 h2).2 (bounds_i64 h3).1 (bounds_i64 h3).2)
  (fun w=>low_b _ _ w) (fun w=>low_b _ _ w) (fun w=>high_b _ _ w) (fun w=>high_b _ _ w)
theorem refPthen_core (t X Y t' X' Y' k x y:Int) (A B M:TMx) (w:World)
  (KD:∀ w,Calls Try.prog 20 #[.agg #[.int .i64 t',.int .i64 X',.int .i64 Y'],.agg #[.int .i64 X,.int .i64 Y]] w fun e w'=>e=.returned (.agg #[.int .i64 x,.int .i64 y])∧Below w.heap.size w w')
  (OA:∀ w,Calls Try.prog 34 #[.int .i64 t] w fun e w'=>e=.returned (.agg #[.int .i64 A.a,.int .i64 A.b,.int .i64 A.c,.int .i64 A.d])∧Below w.heap.size w w')
  (OB:∀ w,Calls Try.prog 34 #[.int .i64 t'] w fun e w'=>e=.returned (.agg #[.int .i64 B.a,.int .i64 B.b,.int .i64 B.c,.int .i64 B.d])∧Below w.heap.size w w')
  (MT:∀ w,Calls Try.prog 33 #[.agg #[.int .i64 A.a,.int .i64 A.b,.int .i64 A.c,.int .i64 A.d],.agg #[.int .i64 B.a,.int .i64 B.b,.int .i64 B.c,.int .i64 B.d]] w fun e w'=>e=.returned (.agg #[.int .i64 M.a,.int .i64 M.b,.int .i64 M.c,.int .i64 M.d])∧Below w.heap.size w w')
  (MR:∀ w,Calls Try.prog 49 #[.agg #[.int .i64 M.a,.int .i64 M.b,.int .i64 M.c,.int .i64 M.d]] w fun e w'=>e=.returned (.int .i64 k)∧Below w.heap.size w w') :
  Calls Try.prog 36 #[.agg #[.int .i64 t,.int .i64 X,.int .i64 Y],.agg #[.int .i64 t',.int .i64 X',.int .i64 Y']] w fun e w'=>e=.returned (.agg #[.int .i64 k,.int .i64 x,.int .i64 y])∧Below w.heap.size w w':=by
 have HD:=Lib.hid KD;have HOA:=Lib.hid OA;have HOB:=Lib.hid OB;have HT:=Lib.hid MT;have HR:=Lib.hid MR
 clear KD OA OB MT MR
 go_enter Try.func36,Try.ntmps36
 go_wp2_with fail
 refine (HD.out _).mono ?_
 rintro e w1 ⟨rfl,hb⟩
 have AA:=(((Bx.new w 40 [.int .i64 t,.int .i64 X,.int .i64 Y]).alloc (.cells #[.int .i64 t',.int .i64 X',.int .i64 Y'] 40)).alloc (.cells #[.int .i64 0,.int .i64 0,.int .i64 0] 40)).up hb
 have CC:=((Bx.new (w.alloc (.cells #[.int .i64 t,.int .i64 X,.int .i64 Y] 40)) 40 [.int .i64 t',.int .i64 X',.int .i64 Y']).alloc (.cells #[.int .i64 0,.int .i64 0,.int .i64 0] 40)).up hb
 have R:=(Bx.new ((w.alloc (.cells #[.int .i64 t,.int .i64 X,.int .i64 Y] 40)).alloc (.cells #[.int .i64 t',.int .i64 X',.int .i64 Y'] 40)) 40 [.int .i64 0,.int .i64 0,.int .i64 0]).up hb
 simp only [World.size_alloc] at CC R
 have B3:=up_alloc (up_trans (up_alloc (up_alloc (up_alloc (Below.refl _ w) _) _) _) hb) (.cells #[.int .i64 x,.int .i64 y] 23)
 clear hb
 have A2:=AA.alloc (.cells #[.int .i64 x,.int .i64 y] 23);have C2:=CC.alloc (.cells #[.int .i64 x,.int .i64 y] 23);have R2:=R.alloc (.cells #[.int .i64 x,.int .i64 y] 23)
 have P2:=Bx.new w1 23 [.int .i64 x,.int .i64 y]
 clear AA CC R
 go_wp2_with fail
 generalize w1.alloc (.cells #[.int .i64 x,.int .i64 y] 23)=w3 at *
 have HB:=Lib.hid B3;clear B3
 have a0:=fun u:Later w3=>u.cell (A2.cell 0 rfl);have c0:=fun u:Later w3=>u.cell (C2.cell 0 rfl)
 have d0:=fun u:Later w3=>u.cell (P2.cell 0 rfl);have d1:=fun u:Later w3=>u.cell (P2.cell 1 rfl)
 clear P2 A2 C2
 refine later_start (w:=w3) ?_
 intro u
 refine wp_region_later_tail 13 (by kernel_rfl) (by kernel_rfl) ?_
 simp only [List.take_succ_cons,List.take_zero,List.drop_succ_cons,List.drop_zero]
 repeat (go_big_quiet_step (first
  | (go_at_call 34;first | (with_reducible exact Later.call (HOA.out _)) | (with_reducible exact Later.call (HOB.out _)))
  | (go_at_call 33;with_reducible exact Later.call (HT.out _))
  | (go_at_call 49;with_reducible exact Later.call (HR.out _))))
 refine wpQuiet_nil ?_
 rintro _ ⟨u2,rfl⟩
 clear a0 c0 d0 d1
 have R3:=R2.up u2.up
 have B9:=up_trans HB.out u2.up
 have r0:=R3.cell 0 rfl;have r1:=R3.cell 1 rfl;have r2:=R3.cell 2 rfl;have rf:=R3.free
 clear R2 R3
 generalize u2.now=w4 at *
 go_wp2
 refine bodyPost_ret (v:=.agg #[.int .i64 k,.int .i64 x,.int .i64 y]) (by simp [results,Try.results36,go_sem,r0,r1,r2]) rfl ⟨rfl,?_⟩
 repeat (first | (with_reducible exact B9) | (with_reducible apply up_alloc) | (with_reducible refine up_set ?_ (by simp only;omega) _))
theorem refTurn_then (i j:Fin 8) (w:World) :
  Calls Try.prog 49 #[.agg #[.int .i64 (mthen (mx (i.val:Int)) (mx (j.val:Int))).a,.int .i64 (mthen (mx (i.val:Int)) (mx (j.val:Int))).b,.int .i64 (mthen (mx (i.val:Int)) (mx (j.val:Int))).c,.int .i64 (mthen (mx (i.val:Int)) (mx (j.val:Int))).d]] w fun e w'=>e=.returned (.int .i64 (thenT (i.val:Int) (j.val:Int)))∧Below w.heap.size w w':=by
 obtain ⟨r0,r7⟩:=then_in i j
 have e:(((thenT (i.val:Int) (j.val:Int)).toNat:Nat):Int)=thenT (i.val:Int) (j.val:Int):=by omega
 have:=refTurn_yes (thenT (i.val:Int) (j.val:Int)).toNat (by omega) w
 rw [mat_then]
 rwa [e] at this
theorem refPthen_any (t X Y t' X' Y':Int) (w:World) (h0:-9223372036854775808≤X) (h1:X≤9223372036854775807) (k0:-9223372036854775808≤Y) (k1:Y≤9223372036854775807) :
  Calls Try.prog 36 #[.agg #[.int .i64 t,.int .i64 X,.int .i64 Y],.agg #[.int .i64 t',.int .i64 X',.int .i64 Y']] w fun e w'=>e=.returned (.agg #[.int .i64 (thenT t t'),.int .i64 (pdo t' X' Y' X Y).1,.int .i64 (pdo t' X' Y' X Y).2])∧Below w.heap.size w w':=by
 obtain ⟨i,hi⟩:=fin8 t
 obtain ⟨j,hj⟩:=fin8 t'
 rw [show thenT t t'=thenT (i.val:Int) (j.val:Int) by rw [then_mod,hi,hj]]
 refine refPthen_core t X Y t' X' Y' _ _ _ (mx (i.val:Int)) (mx (j.val:Int)) (mthen (mx (i.val:Int)) (mx (j.val:Int))) w (fun w=>refPdo_any t' X' Y' X Y w h0 h1 k0 k1) ?_ ?_ (fun w=>refThen_any _ _ w) (fun w=>refTurn_then i j w)
 ·intro w;have:=refTurnOf_any t w;rwa [hi] at this
 ·intro w;have:=refTurnOf_any t' w;rwa [hj] at this
theorem then_none (i j:Fin 8):decide (thenT (i.val:Int) (j.val:Int)=0)=decide ((j.val:Int)=backT (i.val:Int)):=by
 have:∀ i j:Fin 8,decide (thenT (i.val:Int) (j.val:Int)=0)=decide ((j.val:Int)=backT (i.val:Int)):=by decide +kernel
 exact this i j
theorem same_none (i j:Fin 8):sameM4 (mthen (mx (i.val:Int)) (mx (j.val:Int))).a (mthen (mx (i.val:Int)) (mx (j.val:Int))).b (mthen (mx (i.val:Int)) (mx (j.val:Int))).c (mthen (mx (i.val:Int)) (mx (j.val:Int))).d (mx 0).a (mx 0).b (mx 0).c (mx 0).d=decide ((j.val:Int)=backT (i.val:Int)):=by
 obtain ⟨r0,r7⟩:=then_in i j
 rw [mat_then]
 have:=mx_apart (thenT (i.val:Int) (j.val:Int)).toNat 0 (by omega) (by omega)
 rw [show (((thenT (i.val:Int) (j.val:Int)).toNat:Nat):Int)=thenT (i.val:Int) (j.val:Int) by omega] at this
 rw [←then_none,show ((0:Nat):Int)=0 from rfl] at *
 rw [this]
 by_cases h:thenT (i.val:Int) (j.val:Int)=0
 ·rw [decide_eq_true (by omega),decide_eq_true h]
 ·rw [decide_eq_false (by omega),decide_eq_false h]
theorem KS_of {E:Nat→Bool} {j k:Nat} (h:∀ j,j≤k→E j=decide (j=k)) (hj:j≤k):E j=decide (j=k):=h j hj
def BackOf (M:Nat) (w:World) (t:Value) (wr:World):Prop:=∃ k:Nat,k≤M∧t=.int .i64 (k:Int)∧∃ u:Later w,wr=u.now
set_option maxRecDepth 100000 in
set_option maxHeartbeats 1000000 in
theorem refBack_core (t X Y x y p q':Int) (k:Nat) (hk:k<8) (A:TMx) (w:World) (hp:IntKind.i64.wrap (0-x)=p) (hq:IntKind.i64.wrap (0-y)=q') (E:Nat→Bool) (hE:∀ j,j≤k→E j=decide (j=k))
  (KA:∀ w,Calls Try.prog 34 #[.int .i64 t] w fun e w'=>e=.returned (.agg #[.int .i64 A.a,.int .i64 A.b,.int .i64 A.c,.int .i64 A.d])∧Below w.heap.size w w')
  (KJ:∀ (j:Nat),j<8→∀ w,Calls Try.prog 34 #[.int .i64 (j:Int)] w fun e w'=>e=.returned (.agg #[.int .i64 (mx (j:Int)).a,.int .i64 (mx (j:Int)).b,.int .i64 (mx (j:Int)).c,.int .i64 (mx (j:Int)).d])∧Below w.heap.size w w')
  (KT:∀ (j:Nat),j<8→∀ w,Calls Try.prog 33 #[.agg #[.int .i64 A.a,.int .i64 A.b,.int .i64 A.c,.int .i64 A.d],.agg #[.int .i64 (mx (j:Int)).a,.int .i64 (mx (j:Int)).b,.int .i64 (mx (j:Int)).c,.int .i64 (mx (j:Int)).d]] w fun e w'=>e=.returned (.agg #[.int .i64 (mthen A (mx (j:Int))).a,.int .i64 (mthen A (mx (j:Int))).b,.int .i64 (mthen A (mx (j:Int))).c,.int .i64 (mthen A (mx (j:Int))).d])∧Below w.heap.size w w')
  (KS:∀ (j:Nat),j<8→sameM4 (mthen A (mx (j:Int))).a (mthen A (mx (j:Int))).b (mthen A (mx (j:Int))).c (mthen A (mx (j:Int))).d (mx 0).a (mx 0).b (mx 0).c (mx 0).d=E j)
  (KD:∀ w,Calls Try.prog 35 #[.agg #[.int .i64 (mx (k:Int)).a,.int .i64 (mx (k:Int)).b,.int .i64 (mx (k:Int)).c,.int .i64 (mx (k:Int)).d],.int .i64 X,.int .i64 Y] w fun e w'=>e=.returned (.tuple #[.int .i64 x,.int .i64 y])∧Below w.heap.size w w') :
  Calls Try.prog 14 #[.agg #[.int .i64 t,.int .i64 X,.int .i64 Y]] w fun e w'=>e=.returned (.agg #[.int .i64 (k:Int),.int .i64 p,.int .i64 q'])∧Below w.heap.size w w':=by
 have hp':IntKind.i64.wrap (-x)=p:=by rw [←hp,Int.zero_sub]
 have hq':IntKind.i64.wrap (-y)=q':=by rw [←hq,Int.zero_sub]
 have HA:=Lib.hid KA;have HJ:=Lib.hid KJ;have HT:=Lib.hid KT;have HS:=Lib.hid KS;have HD:=Lib.hid KD;have HE:=Lib.hid hE
 clear KA KJ KT KS KD hE
 go_enter Try.func14,Try.ntmps14
 go_wp2_with fail
 have A1:=(Bx.new w 40 [.int .i64 t,.int .i64 X,.int .i64 Y]).alloc (.cells #[.int .i64 0,.int .i64 0,.int .i64 0] 40)
 have R:=Bx.new (w.alloc (.cells #[.int .i64 t,.int .i64 X,.int .i64 Y] 40)) 40 [.int .i64 0,.int .i64 0,.int .i64 0]
 simp only [World.size_alloc] at R
 have HB:=Lib.hid (up_alloc (up_alloc (Below.refl _ w) (.cells #[.int .i64 t,.int .i64 X,.int .i64 Y] 40)) (.cells #[.int .i64 0,.int .i64 0,.int .i64 0] 40))
 generalize (w.alloc (.cells #[.int .i64 t,.int .i64 X,.int .i64 Y] 40)).alloc (.cells #[.int .i64 0,.int .i64 0,.int .i64 0] 40)=w1 at *
 have a0:=fun u:Later w1=>u.cell (A1.cell 0 rfl);have a1:=fun u:Later w1=>u.cell (A1.cell 1 rfl);have a2:=fun u:Later w1=>u.cell (A1.cell 2 rfl)
 clear A1
 have HR:=Lib.hid R
 clear R
 go_loopw [3] (fun t wr=>BackOf k w1 t wr) (fun t _=>8-(intOf t).toNat)
 case atStart=>exact ⟨0,by omega,by go_num,⟨w1,Below.refl _ _⟩,rfl⟩
 case round =>
  obtain ⟨j,hj,rfl,u,rfl⟩:=hrel
  have j8:(j:Int)<8:=by omega
  have KO:=HJ.out j (by omega)
  have KZ:=HJ.out 0 (by omega)
  have KT:=HT.out j (by omega)
  have hE:=KS_of HE.out hj
  have q:=fun w=>run_sameM (mthen A (mx (j:Int))).a (mthen A (mx (j:Int))).b (mthen A (mx (j:Int))).c (mthen A (mx (j:Int))).d (mx 0).a (mx 0).b (mx 0).c (mx 0).d w
  rw [HS.out j (by omega),hE] at q
  have HO:=Lib.hid KO;have HZ:=Lib.hid KZ;have HTJ:=Lib.hid KT
  clear KO KZ KT hE HJ HT HS
  have hKD:=Lib.hid (fun (e:j=k) w=>(by rw [e];exact HD.out w:Calls Try.prog 35 #[.agg #[.int .i64 (mx (j:Int)).a,.int .i64 (mx (j:Int)).b,.int .i64 (mx (j:Int)).c,.int .i64 (mx (j:Int)).d],.int .i64 X,.int .i64 Y] w fun e w'=>e=.returned (.tuple #[.int .i64 x,.int .i64 y])∧Below w.heap.size w w'))
  clear HD
  generalize mthen A (mx (j:Int))=M at *
  generalize mx (j:Int)=N at *
  obtain ⟨z,hz⟩:∃ z,mx 0=z:=⟨_,rfl⟩
  rw [show ((0:Nat):Int)=0 from rfl,hz] at HZ
  rw [hz] at q
  clear hz
  obtain ⟨A0,A1,A2,A3⟩:=A
  obtain ⟨M0,M1,M2,M3⟩:=M
  obtain ⟨N0,N1,N2,N3⟩:=N
  obtain ⟨z0,z1,z2,z3⟩:=z
  have b0:=a0 u
  go_wp2_with fail
  refine (HA.out _).mono ?_
  rintro e w2 ⟨rfl,hb⟩
  obtain ⟨u2,rfl⟩:=Later.next hb
  clear hb b0
  go_wp2_with fail
  refine (HO.out _).mono ?_
  rintro e w3 ⟨rfl,hb⟩
  obtain ⟨u3,rfl⟩:=Later.next hb
  clear hb
  go_wp2_with fail
  refine (HTJ.out _).mono ?_
  rintro e w4 ⟨rfl,hb⟩
  obtain ⟨u4,rfl⟩:=Later.next hb
  clear hb
  go_wp2_with fail
  refine (HZ.out _).mono ?_
  rintro e w5 ⟨rfl,hb⟩
  obtain ⟨u5,rfl⟩:=Later.next hb
  clear hb
  by_cases hjk:j=k
  ·have KD:=hKD.out hjk
   have HD:=Lib.hid KD
   have hjk2:=Lib.hid hjk
   clear KD hKD
   simp only [decide_eq_true hjk] at q
   clear hjk
   go_wp2_with fail
   refine wp_region_later (by kernel_rfl) (by kernel_rfl) ?_
   repeat (go_big_quiet_step ((first | (go_at_call 34;with_reducible exact Later.call (HO.out _)) | (go_at_call 35;with_reducible exact Later.call (HD.out _)))))
   refine wpQuiet_nil ?_
   rintro _ ⟨u6,rfl⟩
   have R6:=HR.out.up u6.up
   have B6:=Lib.hid (up_trans HB.out u6.up)
   have r0:=R6.cell 0 rfl;have r1:=R6.cell 1 rfl;have r2:=R6.cell 2 rfl;have rf:=R6.free
   obtain ⟨w6,hw6⟩:∃ w6,u6.now=w6:=⟨_,rfl⟩
   rw [hw6] at R6 B6 r0 r1 r2 rf ⊢
   have R7:=R6.set3 (.int .i64 (j:Int)) (.int .i64 p) (.int .i64 q')
   have p0:=Lib.hid (R7.cell 0 rfl);have p1:=Lib.hid (R7.cell 1 rfl);have p2:=Lib.hid (R7.cell 2 rfl)
   clear a0 a1 a2 HR R6 R7 hw6
   go_wp2
   have q0:=p0.out;have q1:=p1.out;have q2:=p2.out
   refine bodyPost_ret (v:=.agg #[.int .i64 (j:Int),.int .i64 p,.int .i64 q']) (by simp [results,Try.results14,go_sem,q0,q1,q2]) rfl ⟨by rw [hjk2.out],?_⟩
   exact up_set (up_set (up_set B6.out (by simp only;omega) _) (by simp only;omega) _) (by simp only;omega) _
  ·simp only [decide_eq_false hjk] at q
   have hlt:=Lib.hid hjk
   clear hjk hKD
   go_wp2_with fail
   go_roundw
   case rel=>exact ⟨j+1,by have:=hlt.out;omega,by go_num,u5,rfl⟩
   case measure=>simp [intOf];omega
def backP (t X Y:Int):Int×Int×Int:=(backT t,IntKind.i64.wrap (0-(doT (backT t) X Y).1),IntKind.i64.wrap (0-(doT (backT t) X Y).2))
theorem refBack_any (t X Y:Int) (w:World) (h0:-9223372036854775808≤X) (h1:X≤9223372036854775807) (k0:-9223372036854775808≤Y) (k1:Y≤9223372036854775807) :
  Calls Try.prog 14 #[.agg #[.int .i64 t,.int .i64 X,.int .i64 Y]] w fun e w'=>e=.returned (.agg #[.int .i64 (backP t X Y).1,.int .i64 (backP t X Y).2.1,.int .i64 (backP t X Y).2.2])∧Below w.heap.size w w':=by
 obtain ⟨i,hi⟩:=fin8 t
 obtain ⟨b0,b7⟩:=back_in t
 obtain ⟨k,hk⟩:=int_fin b0 b7
 have hb:backT (i.val:Int)=(k.val:Int):=by rw [←hk,back_mod t,hi]
 have KD:=fun w=>refDo_any (mx (k.val:Int)) X Y w
 rw [mat_does k X Y h0 h1 k0 k1] at KD
 unfold backP
 rw [hk]
 refine refBack_core t X Y _ _ _ _ k.val k.isLt (mx (i.val:Int)) w rfl rfl (fun j=>decide ((j:Int)=(k.val:Int))) (fun j _=>?_) (fun w=>?_) (fun j hj w=>?_) (fun j hj w=>refThen_any _ _ w) (fun j hj=>?_) KD
 ·rw [Bool.eq_iff_iff,decide_eq_true_eq,decide_eq_true_eq];omega
 ·have:=refTurnOf_any t w
  rwa [hi] at this
 ·have:=refTurnOf_any (j:Int) w
  rwa [show (j:Int)%8=(j:Int) by omega] at this
 ·have:=same_none i ⟨j,hj⟩
  rw [hb] at this
  exact this
def NumC (cs:List Value) (n:Nat→Int):Prop:=∀ k,k<28→cs[cellJ k]?=some (.int .i64 (n k))
theorem JobA.numC {w:World} {cs:List Value} {j:Jb} (h:JobA w cs j):NumC cs j.n:=fun k hk=>h.num hk
theorem refSize_core (cs:List Value) (s a f t h d p1 p2 q1 q2:Int) (w:World) (c10:cs[10]?=some (.int .i64 s)) (c4:cs[4]?=some (.int .i64 a)) (c9:cs[9]?=some (.int .i64 f)) (c8:cs[8]?=some (.int .i64 t)) (c5:cs[5]?=some (.int .i64 h)) (c7:cs[7]?=some (.int .i64 d))
  (e1:IntKind.i64.wrap (s+a)=p1) (e2:IntKind.i64.wrap (p1+f)=p2) (e3:IntKind.i64.wrap (t+h)=q1) (e4:IntKind.i64.wrap (q1+d)=q2) :
  Calls Try.prog 7 #[.agg cs.toArray] w fun e w'=>e=.returned (.tuple #[.int .i64 p2,.int .i64 q2])∧Below w.heap.size w w':=by
 have HX:=Bx.new w 29 cs
 have HB:=Lib.hid (up_alloc (Below.refl w.heap.size w) (.cells cs.toArray 29))
 have b10:=HX.cell 10 c10;have b4:=HX.cell 4 c4;have b9:=HX.cell 9 c9;have b8:=HX.cell 8 c8;have b5:=HX.cell 5 c5;have b7:=HX.cell 7 c7
 clear HX c10 c4 c9 c8 c5 c7
 generalize cs.toArray=ca at *
 go_enter Try.func7,Try.ntmps7
 go_wp2_with fail
 obtain ⟨w1,hw1⟩:∃ w1,w.alloc (.cells ca 29)=w1:=⟨_,rfl⟩
 rw [hw1] at b10 b4 b9 b8 b5 b7 HB ⊢
 clear hw1
 have j10:=fun u:Later w1=>u.cell b10;have j4:=fun u:Later w1=>u.cell b4;have j9:=fun u:Later w1=>u.cell b9
 have j8:=fun u:Later w1=>u.cell b8;have j5:=fun u:Later w1=>u.cell b5;have j7:=fun u:Later w1=>u.cell b7
 clear b10 b4 b9 b8 b5 b7
 refine later_start (w:=w1) ?_
 intro u
 refine wp_region_later (by kernel_rfl) (by kernel_rfl) ?_
 repeat (go_big_quiet_step (fail))
 refine wpQuiet_nil ?_
 rintro _ ⟨u2,rfl⟩
 have BB:=Lib.hid (up_trans HB.out u2.up)
 clear j10 j4 j9 j8 j5 j7
 go_wp2
 go_ret2
 exact ⟨rfl,BB.out⟩
theorem sizW_eq (n:Nat→Int):IntKind.i64.wrap (IntKind.i64.wrap (n 9+n 3)+n 8)=sizW n:=w64_addL _ _
theorem sizH_eq (n:Nat→Int):IntKind.i64.wrap (IntKind.i64.wrap (n 7+n 4)+n 6)=sizH n:=w64_addL _ _
theorem refSize_any (cs:List Value) (n:Nat→Int) (w:World) (h:NumC cs n) :
  Calls Try.prog 7 #[.agg cs.toArray] w fun e w'=>e=.returned (.tuple #[.int .i64 (sizW n),.int .i64 (sizH n)])∧Below w.heap.size w w' :=
 refSize_core cs _ _ _ _ _ _ _ _ _ _ w (h 9 (by decide)) (h 3 (by decide)) (h 8 (by decide)) (h 7 (by decide)) (h 4 (by decide)) (h 6 (by decide)) rfl (sizW_eq n) rfl (sizH_eq n)
theorem refPFrom_any (cs:List Value) (n:Nat→Int) (recto:Bool) (w:World) (h:NumC cs n) :
  Calls Try.prog 38 #[.agg cs.toArray,.bool recto] w fun e w'=>e=.returned (.int .i64 (fromP n recto))∧Below w.heap.size w w':=by
 have HX:=Bx.new w 29 cs
 have HB:=Lib.hid (up_alloc (Below.refl w.heap.size w) (.cells cs.toArray 29))
 have b10:=HX.cell 10 (h 9 (by decide));have b9:=HX.cell 9 (h 8 (by decide))
 clear HX h
 unfold fromP
 generalize cs.toArray=ca at *
 generalize n 9=s at *
 generalize n 8=f at *
 cases recto
 ·go_enter Try.func38,Try.ntmps38
  go_wp2
  go_ret
  exact ⟨rfl,HB.out⟩
 ·go_enter Try.func38,Try.ntmps38
  go_wp2
  go_ret
  exact ⟨rfl,HB.out⟩
set_option maxHeartbeats 1000000 in
theorem refClip_core (cs:List Value) (x t h a b y0 x1 y1 y2 z o0 o2:Int) (recto:Bool) (w:World) (ho0:(if recto=true then x else z)=o0) (ho2:(if recto=true then z else x1)=o2) (hL:cs.length=33) (c8:cs[8]?=some (.int .i64 t)) (c6:cs[6]?=some (.int .i64 b)) (c4:cs[4]?=some (.int .i64 a)) (c5:cs[5]?=some (.int .i64 h))
  (e0:IntKind.i64.wrap (t-b)=y0) (e1:IntKind.i64.wrap (x+a)=x1) (e2:IntKind.i64.wrap (t+h)=y1) (e3:IntKind.i64.wrap (y1+b)=y2) (e4:(if recto=true then IntKind.i64.wrap (x1+b) else IntKind.i64.wrap (x-b))=z)
  (KF:∀ w1,Calls Try.prog 38 #[.agg cs.toArray,.bool recto] w1 fun e w'=>e=.returned (.int .i64 x)∧Below w1.heap.size w1 w') :
  Calls Try.prog 19 #[.agg cs.toArray,.bool recto] w fun e w'=>e=.returned (.agg #[.int .i64 o0,.int .i64 y0,.int .i64 o2,.int .i64 y2])∧Below w.heap.size w w':=by
 have X1:=Bx.new w 29 cs
 have U1:=up_alloc (Below.refl w.heap.size w) (.cells cs.toArray 29)
 have V1:=up_alloc (Below.refl _ (w.alloc (.cells cs.toArray 29))) (.cells #[.int .i64 0,.int .i64 0,.int .i64 0,.int .i64 0] 37)
 have HX:=Lib.hid (X1.later (by rw [hL];decide) V1)
 have HB:=Lib.hid (up_trans U1 V1)
 have R1:=Bx.new (w.alloc (.cells cs.toArray 29)) 37 [.int .i64 0,.int .i64 0,.int .i64 0,.int .i64 0]
 rw [World.size_alloc] at R1
 have HR:=Lib.hid R1
 have HL:=Lib.hid hL;have HF:=Lib.hid KF
 have H8:=Lib.hid c8;have H6:=Lib.hid c6;have H4:=Lib.hid c4;have H5:=Lib.hid c5;have E4:=Lib.hid e4;have HO0:=Lib.hid ho0;have HO2:=Lib.hid ho2
 clear X1 U1 V1 R1 hL KF c8 c6 c4 c5 e4 ho0 ho2
 go_enter Try.func19,Try.ntmps19
 go_wp2_with (refine wpList_load_job rfl _ rfl w.heap.size rfl cs HX.out HL.out ?_;simp only [Act.put,List.setIfInBounds_toArray,List.set_cons_succ,List.set_cons_zero])
 refine (HF.out _).mono ?_
 rintro e w1 ⟨rfl,hb⟩
 have X2:=HX.out.later (by rw [HL.out];decide) hb
 have b8:=X2.cell 8 H8.out;have b6:=X2.cell 6 H6.out;have b4:=X2.cell 4 H4.out;have b5:=X2.cell 5 H5.out
 have HX2:=Lib.hid X2
 have hlow:=(HR.out.up hb).lt
 have HR1:=Lib.hid (HR.out.up hb)
 have HB1:=Lib.hid (up_trans HB.out hb)
 clear X2 hb
 go_upto_if 29 with fail
 have U2:=up_alloc (Below.refl _ w1) (.cells #[.int .i64 x,.int .i64 y0,.int .i64 x1,.int .i64 y2] 37)
 have X3:=HX2.out.later (by rw [HL.out];decide) U2
 have R2:=HR1.out.up U2
 have S2:=Bx.new w1 37 [.int .i64 x,.int .i64 y0,.int .i64 x1,.int .i64 y2]
 have B2:=Lib.hid (up_trans HB1.out U2)
 clear b8 b6 b4 b5 U2
 have b6:=X3.cell 6 H6.out
 obtain ⟨w2,hw2⟩:∃ w2,w1.alloc (.cells #[.int .i64 x,.int .i64 y0,.int .i64 x1,.int .i64 y2] 37)=w2:=⟨_,rfl⟩
 rw [hw2] at R2 S2 B2 b6 ⊢
 clear hw2 X3 HX2
 have s0:=S2.cell 0 rfl;have s1:=S2.cell 1 rfl;have s2:=S2.cell 2 rfl;have s3:=S2.cell 3 rfl;have sf:=S2.free
 have HS:=Lib.hid S2;have HR2:=Lib.hid R2
 clear S2 R2
 cases recto
 ·have e5:IntKind.i64.wrap (x-b)=z:=E4.out
  obtain rfl:z=o0:=HO0.out
  obtain rfl:x1=o2:=HO2.out
  have S3:=HS.out.set 0 (.int .i64 z)
  have R3:=HR2.out.far (p:=⟨w1.heap.size,0,none⟩) (by simp only;omega) (.int .i64 z)
  have R4:=((((R3.set 0 (.int .i64 z)).set 1 (.int .i64 y0)).set 2 (.int .i64 x1)).set 3 (.int .i64 y2))
  have t0:=S3.cell 0 rfl;have t1:=S3.cell 1 rfl;have t2:=S3.cell 2 rfl;have t3:=S3.cell 3 rfl
  have rf3:=R3.free
  have r0:=R3.cell 0 rfl;have r1:=R3.cell 1 rfl;have r2:=R3.cell 2 rfl;have r3:=R3.cell 3 rfl
  have p0:=Lib.hid (R4.cell 0 rfl);have p1:=Lib.hid (R4.cell 1 rfl);have p2:=Lib.hid (R4.cell 2 rfl);have p3:=Lib.hid (R4.cell 3 rfl)
  clear S3 R3 R4
  go_wp2
  have q0:=p0.out;have q1:=p1.out;have q2:=p2.out;have q3:=p3.out
  refine bodyPost_ret (v:=.agg #[.int .i64 z,.int .i64 y0,.int .i64 x1,.int .i64 y2]) (by simp [results,Try.results19,go_sem,q0,q1,q2,q3]) rfl ⟨rfl,?_⟩
  exact up_set (up_set (up_set (up_set (up_set B2.out (by simp only;omega) _) (by simp only;omega) _) (by simp only;omega) _) (by simp only;omega) _) (by simp only;omega) _
 ·have e5:IntKind.i64.wrap (x1+b)=z:=E4.out
  obtain rfl:x=o0:=HO0.out
  obtain rfl:z=o2:=HO2.out
  have S3:=HS.out.set 2 (.int .i64 z)
  have R3:=HR2.out.far (p:=⟨w1.heap.size,2,none⟩) (by simp only;omega) (.int .i64 z)
  have R4:=((((R3.set 0 (.int .i64 x)).set 1 (.int .i64 y0)).set 2 (.int .i64 z)).set 3 (.int .i64 y2))
  have t0:=S3.cell 0 rfl;have t1:=S3.cell 1 rfl;have t2:=S3.cell 2 rfl;have t3:=S3.cell 3 rfl
  have rf3:=R3.free
  have r0:=R3.cell 0 rfl;have r1:=R3.cell 1 rfl;have r2:=R3.cell 2 rfl;have r3:=R3.cell 3 rfl
  have p0:=Lib.hid (R4.cell 0 rfl);have p1:=Lib.hid (R4.cell 1 rfl);have p2:=Lib.hid (R4.cell 2 rfl);have p3:=Lib.hid (R4.cell 3 rfl)
  clear S3 R3 R4
  go_wp2
  have q0:=p0.out;have q1:=p1.out;have q2:=p2.out;have q3:=p3.out
  refine bodyPost_ret (v:=.agg #[.int .i64 x,.int .i64 y0,.int .i64 z,.int .i64 y2]) (by simp [results,Try.results19,go_sem,q0,q1,q2,q3]) rfl ⟨rfl,?_⟩
  exact up_set (up_set (up_set (up_set (up_set B2.out (by simp only;omega) _) (by simp only;omega) _) (by simp only;omega) _) (by simp only;omega) _) (by simp only;omega) _
theorem refClip_any (cs:List Value) (n:Nat→Int) (recto:Bool) (w:World) (h:NumC cs n) (hL:cs.length=33) :
  Calls Try.prog 19 #[.agg cs.toArray,.bool recto] w fun e w'=>e=.returned (.agg #[.int .i64 (clipP n recto).1,.int .i64 (clipP n recto).2.1,.int .i64 (clipP n recto).2.2.1,.int .i64 (clipP n recto).2.2.2])∧Below w.heap.size w w':=by
 have K:=refClip_core cs (fromP n recto) (n 7) (n 4) (n 3) (n 5) _ _ _ _ _ _ _ recto w rfl rfl hL (h 7 (by decide)) (h 5 (by decide)) (h 3 (by decide)) (h 4 (by decide)) rfl rfl rfl rfl rfl (fun w1=>refPFrom_any cs n recto w1 h)
 have e0:IntKind.i64.wrap (IntKind.i64.wrap (n 7+n 4)+n 5)=w64 (n 7+n 4+n 5):=w64_addL _ _
 have e1:IntKind.i64.wrap (IntKind.i64.wrap (n 9+n 3)+n 5)=w64 (n 9+n 3+n 5):=w64_addL _ _
 rw [e0] at K
 cases recto
 ·exact K
 ·unfold fromP at K
  simp only [if_true] at K
  rw [e1] at K
  exact K
set_option maxRecDepth 100000 in
set_option maxHeartbeats 2000000 in
theorem refOnto_core (cs:List Value) (c r k p lf W H m q x a1 a2 y X2 T2 A2 B2:Int) (sa:Option Addr) (sn sc:Nat) (fx fy:Bool) (w:World) (hL:cs.length=33)
  (c1:1≤c) (c2:c≤64) (hm:p.tmod c=m) (hq:p.tdiv c=q) (q1:0≤q) (q2:q≤9000) (m1:0≤m) (m2:m≤64)
  (ex:IntKind.i64.wrap (m*W)=x) (e1:IntKind.i64.wrap (k*r)=a1) (e2:IntKind.i64.wrap (a1+q)=a2) (ey:IntKind.i64.wrap (a2*H)=y) (eX:(if fx=true then IntKind.i64.wrap (x+W) else x)=X2)
  (KS:∀ w1,Calls Try.prog 7 #[.agg cs.toArray] w1 fun e w'=>e=.returned (.tuple #[.int .i64 W,.int .i64 H])∧Below w1.heap.size w1 w')
  (KT:∀ w1,Calls Try.prog 36 #[.agg #[.int .i64 6,.int .i64 0,.int .i64 H],.agg #[.int .i64 (if fx=true then 4 else 0),.int .i64 X2,.int .i64 y]] w1 fun e w'=>e=.returned (.agg #[.int .i64 T2,.int .i64 A2,.int .i64 B2])∧Below w1.heap.size w1 w')
  (o0 o1 o2:Int) (h0:(if fy=true then T2 else (if fx=true then 4 else 0))=o0) (h1:(if fy=true then A2 else X2)=o1) (h2:(if fy=true then B2 else y)=o2) :
  Calls Try.prog 15 #[.agg cs.toArray,.agg #[.int .i64 c,.int .i64 r,.slice sa sn sc],.int .i64 k,.int .i64 p,.agg #[.int .i64 lf,.bool fx,.bool fy]] w fun e w'=>e=.returned (.agg #[.int .i64 o0,.int .i64 o1,.int .i64 o2])∧Below w.heap.size w w':=by
 have X1:=Bx.new w 29 cs
 have U1:=up_alloc (Below.refl w.heap.size w) (.cells cs.toArray 29)
 obtain ⟨w1,hw1⟩:∃ w1,w.alloc (.cells cs.toArray 29)=w1:=⟨_,rfl⟩
 have hs1:w1.heap.size=w.heap.size+1:=by rw [←hw1,World.size_alloc]
 have S1:=Bx.new w1 26 [.int .i64 c,.int .i64 r,.slice sa sn sc]
 have V1:=up_alloc (Below.refl _ w1) (.cells #[.int .i64 c,.int .i64 r,.slice sa sn sc] 26)
 obtain ⟨w2,hw2⟩:∃ w2,w1.alloc (.cells #[.int .i64 c,.int .i64 r,.slice sa sn sc] 26)=w2:=⟨_,rfl⟩
 have hs2:w2.heap.size=w.heap.size+1+1:=by rw [←hw2,World.size_alloc,hs1]
 have P1:=Bx.new w2 31 [.int .i64 lf,.bool fx,.bool fy]
 have V2:=up_alloc (Below.refl _ w2) (.cells #[.int .i64 lf,.bool fx,.bool fy] 31)
 obtain ⟨w3,hw3⟩:∃ w3,w2.alloc (.cells #[.int .i64 lf,.bool fx,.bool fy] 31)=w3:=⟨_,rfl⟩
 have hs3:w3.heap.size=w.heap.size+1+1+1:=by rw [←hw3,World.size_alloc,hs2]
 have R1:=Bx.new w3 40 [.int .i64 0,.int .i64 0,.int .i64 0]
 have V3:=up_alloc (Below.refl _ w3) (.cells #[.int .i64 0,.int .i64 0,.int .i64 0] 40)
 obtain ⟨w4,hw4⟩:∃ w4,w3.alloc (.cells #[.int .i64 0,.int .i64 0,.int .i64 0] 40)=w4:=⟨_,rfl⟩
 rw [hw1] at X1 U1
 rw [hw2] at S1 V1
 rw [hw3] at P1 V2
 rw [hw4] at R1 V3
 have hall:(((w.alloc (.cells cs.toArray 29)).alloc (.cells #[.int .i64 c,.int .i64 r,.slice sa sn sc] 26)).alloc (.cells #[.int .i64 lf,.bool fx,.bool fy] 31)).alloc (.cells #[.int .i64 0,.int .i64 0,.int .i64 0] 40)=w4:=by rw [hw1,hw2,hw3,hw4]
 have HX:=Lib.hid (((X1.later (by rw [hL];decide) V1).later (by rw [hL];decide) V2).later (by rw [hL];decide) V3)
 have HS:=Lib.hid ((S1.up V2).up V3)
 have HP:=Lib.hid (P1.up V3)
 have HR:=Lib.hid R1
 have HB:=Lib.hid (up_trans (up_trans (up_trans U1 V1) V2) V3)
 rw [hs1] at HS
 rw [hs2] at HP
 rw [hs3] at HR
 clear X1 S1 P1 R1 U1 V1 V2 V3 hw1 hw2 hw3 hw4 hs1 hs2 hs3
 have HL:=Lib.hid hL;have HKS:=Lib.hid KS;have HKT:=Lib.hid KT;have EX:=Lib.hid eX;have H0:=Lib.hid h0;have H1:=Lib.hid h1;have H2:=Lib.hid h2
 have HA:=Lib.hid hall
 clear hL KS KT eX h0 h1 h2 hall
 have cz:¬ c=0:=by omega
 have czb:(c==0)=false:=by simp;omega
 go_enter Try.func15,Try.ntmps15
 go_wp2_with (rw [HA.out];refine wpList_load_job rfl _ rfl w.heap.size rfl cs HX.out HL.out ?_;simp only [Act.put,List.setIfInBounds_toArray,List.set_cons_succ,List.set_cons_zero])
 refine (HKS.out _).mono ?_
 rintro e w5 ⟨rfl,hb⟩
 have s0:=(HS.out.up hb).cell 0 rfl;have s1:=(HS.out.up hb).cell 1 rfl
 have pp1:=(HP.out.up hb).cell 1 rfl;have pp2:=(HP.out.up hb).cell 2 rfl
 have R5:=HR.out.up hb;have PB5:=HP.out.up hb
 have B5:=Lib.hid (up_trans HB.out hb)
 clear hb HS HP HX HR
 go_wp2_with fail
 have j0:=fun u:Later w5=>u.cell s0;have j1:=fun u:Later w5=>u.cell s1
 refine later_start (w:=w5) ?_
 intro u
 refine wp_region_later (by kernel_rfl) (by kernel_rfl) ?_
 repeat (go_big_quiet_step (fail))
 refine wpQuiet_nil ?_
 rintro _ ⟨u2,rfl⟩
 have g1:=u2.cell pp1;have g2:=u2.cell pp2
 have R6:=R5.up u2.up;have PB6:=PB5.up u2.up
 have B6:=Lib.hid (up_trans B5.out u2.up)
 obtain ⟨w6,hw6⟩:∃ w6,u2.now=w6:=⟨_,rfl⟩
 rw [hw6] at g1 g2 R6 PB6 B6 ⊢
 clear hw6 j0 j1 s0 s1 pp1 pp2 R5 PB5 u u2
 have O1:=up_alloc (Below.refl _ w6) (.cells #[.int .i64 0,.int .i64 x,.int .i64 y] 40)
 have f1:=bl_cell O1 g1;have f2:=bl_cell O1 g2
 have S7:=Bx.new w6 40 [.int .i64 0,.int .i64 x,.int .i64 y]
 have R7:=R6.up O1;have PB7:=PB6.up O1
 have B7:=Lib.hid (up_trans B6.out O1)
 have hlow:w.heap.size+1+1+1<w6.heap.size:=R6.lt
 clear R6 PB6 O1
 go_upto_if 43 with fail
 obtain ⟨w7,hw7⟩:∃ w7,w6.alloc (.cells #[.int .i64 0,.int .i64 x,.int .i64 y] 40)=w7:=⟨_,rfl⟩
 rw [hw7] at f1 f2 S7 R7 PB7 B7 ⊢
 clear hw7 g1 g2
 cases fx
 ·obtain rfl:x=X2:=EX.out
  have S8:=S7
  have R8:=R7
  have B8:=B7
  obtain ⟨w8,hw8⟩:∃ w8,w8=w7:=⟨_,rfl⟩
  subst hw8
  go_upto_if 50 with fail
  cases fy
  ·obtain rfl:0=o0:=H0.out
   obtain rfl:x=o1:=H1.out
   obtain rfl:y=o2:=H2.out
   have s0:=S8.cell 0 rfl;have s1:=S8.cell 1 rfl;have s2:=S8.cell 2 rfl
   have r0:=R8.cell 0 rfl;have r1:=R8.cell 1 rfl;have r2:=R8.cell 2 rfl;have rf:=R8.free
   have R9:=R8.set3 (.int .i64 0) (.int .i64 x) (.int .i64 y)
   have p0:=Lib.hid (R9.cell 0 rfl);have p1:=Lib.hid (R9.cell 1 rfl);have p2:=Lib.hid (R9.cell 2 rfl)
   clear R9 R8 S8
   go_wp2
   have q0:=p0.out;have q1:=p1.out;have q2:=p2.out
   refine bodyPost_ret (v:=.agg #[.int .i64 0,.int .i64 x,.int .i64 y]) (by simp [results,Try.results15,go_sem,q0,q1,q2]) rfl ⟨rfl,?_⟩
   exact up_set (up_set (up_set B8.out (by simp only;omega) _) (by simp only;omega) _) (by simp only;omega) _
  ·obtain rfl:T2=o0:=H0.out
   obtain rfl:A2=o1:=H1.out
   obtain rfl:B2=o2:=H2.out
   have O2:=up_alloc (Below.refl _ w8) (.cells #[.int .i64 6,.int .i64 0,.int .i64 H] 40)
   have Q9:=Bx.new w8 40 [.int .i64 6,.int .i64 0,.int .i64 H]
   have S9:=S8.up O2
   have R9:=R8.up O2
   have B9:=Lib.hid (up_trans B8.out O2)
   have s0:=S9.cell 0 rfl;have s1:=S9.cell 1 rfl;have s2:=S9.cell 2 rfl
   have z0:=Q9.cell 0 rfl;have z1:=Q9.cell 1 rfl;have z2:=Q9.cell 2 rfl
   clear O2 Q9 S8 R8
   go_wp2_with fail
   refine (HKT.out _).mono ?_
   rintro e w10 ⟨rfl,hb⟩
   have S10:=S9.up hb
   have R10:=R9.up hb
   have B10:=Lib.hid (up_trans B9.out hb)
   clear hb s0 s1 s2 z0 z1 z2 S9 R9
   have S11:=S10.set3 (.int .i64 T2) (.int .i64 A2) (.int .i64 B2)
   have R11:=((R10.far (p:=⟨w6.heap.size,0,none⟩) (by simp only;omega) (.int .i64 T2)).far (p:=⟨w6.heap.size,1,none⟩) (by simp only;omega) (.int .i64 A2)).far (p:=⟨w6.heap.size,2,none⟩) (by simp only;omega) (.int .i64 B2)
   have R12:=R11.set3 (.int .i64 T2) (.int .i64 A2) (.int .i64 B2)
   have s0:=S10.cell 0 rfl;have s1:=S10.cell 1 rfl;have s2:=S10.cell 2 rfl;have sf:=S10.free
   have u0:=S11.cell 0 rfl;have u1:=S11.cell 1 rfl;have u2:=S11.cell 2 rfl
   have r0:=R11.cell 0 rfl;have r1:=R11.cell 1 rfl;have r2:=R11.cell 2 rfl;have rf:=R11.free
   have p0:=Lib.hid (R12.cell 0 rfl);have p1:=Lib.hid (R12.cell 1 rfl);have p2:=Lib.hid (R12.cell 2 rfl)
   clear S10 S11 R10 R11 R12
   go_wp2
   have q0:=p0.out;have q1:=p1.out;have q2:=p2.out
   refine bodyPost_ret (v:=.agg #[.int .i64 T2,.int .i64 A2,.int .i64 B2]) (by simp [results,Try.results15,go_sem,q0,q1,q2]) rfl ⟨rfl,?_⟩
   exact up_set (up_set (up_set (up_set (up_set (up_set B10.out (by simp only;omega) _) (by simp only;omega) _) (by simp only;omega) _) (by simp only;omega) _) (by simp only;omega) _) (by simp only;omega) _
 ·have eX:IntKind.i64.wrap (x+W)=X2:=EX.out
  have S8:=S7.set3 (.int .i64 4) (.int .i64 X2) (.int .i64 y)
  have R8:=((R7.far (p:=⟨w6.heap.size,0,none⟩) (by simp only;omega) (.int .i64 4)).far (p:=⟨w6.heap.size,1,none⟩) (by simp only;omega) (.int .i64 X2)).far (p:=⟨w6.heap.size,2,none⟩) (by simp only;omega) (.int .i64 y)
  have B8:=Lib.hid (up_set (up_set (up_set B7.out (p:=⟨w6.heap.size,0,none⟩) (by simp only;omega) (.int .i64 4)) (p:=⟨w6.heap.size,1,none⟩) (by simp only;omega) (.int .i64 X2)) (p:=⟨w6.heap.size,2,none⟩) (by simp only;omega) (.int .i64 y))
  have t0:=S7.cell 0 rfl;have t1:=S7.cell 1 rfl;have t2:=S7.cell 2 rfl;have tf:=S7.free
  have PB8:=((PB7.far (p:=⟨w6.heap.size,0,none⟩) (by simp only;omega) (.int .i64 4)).far (p:=⟨w6.heap.size,1,none⟩) (by simp only;omega) (.int .i64 X2)).far (p:=⟨w6.heap.size,2,none⟩) (by simp only;omega) (.int .i64 y)
  have k2:=PB8.cell 2 rfl
  clear S7 R7 B7 PB7 PB8
  go_upto_if 50 with fail
  obtain ⟨w8,hw8⟩:∃ w8,((w7.setCell ⟨w6.heap.size,0,none⟩ (.int .i64 4)).setCell ⟨w6.heap.size,1,none⟩ (.int .i64 X2)).setCell ⟨w6.heap.size,2,none⟩ (.int .i64 y)=w8:=⟨_,rfl⟩
  rw [hw8] at S8 R8 B8 ⊢
  clear hw8 t0 t1 t2 tf k2 f1 f2
  cases fy
  ·obtain rfl:4=o0:=H0.out
   obtain rfl:X2=o1:=H1.out
   obtain rfl:y=o2:=H2.out
   have s0:=S8.cell 0 rfl;have s1:=S8.cell 1 rfl;have s2:=S8.cell 2 rfl
   have r0:=R8.cell 0 rfl;have r1:=R8.cell 1 rfl;have r2:=R8.cell 2 rfl;have rf:=R8.free
   have R9:=R8.set3 (.int .i64 4) (.int .i64 X2) (.int .i64 y)
   have p0:=Lib.hid (R9.cell 0 rfl);have p1:=Lib.hid (R9.cell 1 rfl);have p2:=Lib.hid (R9.cell 2 rfl)
   clear R9 R8 S8
   go_wp2
   have q0:=p0.out;have q1:=p1.out;have q2:=p2.out
   refine bodyPost_ret (v:=.agg #[.int .i64 4,.int .i64 X2,.int .i64 y]) (by simp [results,Try.results15,go_sem,q0,q1,q2]) rfl ⟨rfl,?_⟩
   exact up_set (up_set (up_set B8.out (by simp only;omega) _) (by simp only;omega) _) (by simp only;omega) _
  ·obtain rfl:T2=o0:=H0.out
   obtain rfl:A2=o1:=H1.out
   obtain rfl:B2=o2:=H2.out
   have O2:=up_alloc (Below.refl _ w8) (.cells #[.int .i64 6,.int .i64 0,.int .i64 H] 40)
   have Q9:=Bx.new w8 40 [.int .i64 6,.int .i64 0,.int .i64 H]
   have S9:=S8.up O2
   have R9:=R8.up O2
   have B9:=Lib.hid (up_trans B8.out O2)
   have s0:=S9.cell 0 rfl;have s1:=S9.cell 1 rfl;have s2:=S9.cell 2 rfl
   have z0:=Q9.cell 0 rfl;have z1:=Q9.cell 1 rfl;have z2:=Q9.cell 2 rfl
   clear O2 Q9 S8 R8
   go_wp2_with fail
   refine (HKT.out _).mono ?_
   rintro e w10 ⟨rfl,hb⟩
   have S10:=S9.up hb
   have R10:=R9.up hb
   have B10:=Lib.hid (up_trans B9.out hb)
   clear hb s0 s1 s2 z0 z1 z2 S9 R9
   have S11:=S10.set3 (.int .i64 T2) (.int .i64 A2) (.int .i64 B2)
   have R11:=((R10.far (p:=⟨w6.heap.size,0,none⟩) (by simp only;omega) (.int .i64 T2)).far (p:=⟨w6.heap.size,1,none⟩) (by simp only;omega) (.int .i64 A2)).far (p:=⟨w6.heap.size,2,none⟩) (by simp only;omega) (.int .i64 B2)
   have R12:=R11.set3 (.int .i64 T2) (.int .i64 A2) (.int .i64 B2)
   have s0:=S10.cell 0 rfl;have s1:=S10.cell 1 rfl;have s2:=S10.cell 2 rfl;have sf:=S10.free
   have u0:=S11.cell 0 rfl;have u1:=S11.cell 1 rfl;have u2:=S11.cell 2 rfl
   have r0:=R11.cell 0 rfl;have r1:=R11.cell 1 rfl;have r2:=R11.cell 2 rfl;have rf:=R11.free
   have p0:=Lib.hid (R12.cell 0 rfl);have p1:=Lib.hid (R12.cell 1 rfl);have p2:=Lib.hid (R12.cell 2 rfl)
   clear S10 S11 R10 R11 R12
   go_wp2
   have q0:=p0.out;have q1:=p1.out;have q2:=p2.out
   refine bodyPost_ret (v:=.agg #[.int .i64 T2,.int .i64 A2,.int .i64 B2]) (by simp [results,Try.results15,go_sem,q0,q1,q2]) rfl ⟨rfl,?_⟩
   exact up_set (up_set (up_set (up_set (up_set (up_set B10.out (by simp only;omega) _) (by simp only;omega) _) (by simp only;omega) _) (by simp only;omega) _) (by simp only;omega) _) (by simp only;omega) _
def ontoP (n:Nat→Int) (c r k p:Int) (fx fy:Bool):Int×Int×Int :=
 (flipT fx fy,if fx=true then w64 (boxX n c p+sizW n) else boxX n c p,if fy=true then w64 (boxY n c r k p+sizH n) else boxY n c r k p)
theorem boxY_eq (n:Nat→Int) (c r k p:Int):IntKind.i64.wrap (IntKind.i64.wrap (IntKind.i64.wrap (k*r)+p.tdiv c)*sizH n)=boxY n c r k p:=by
 have e1:IntKind.i64.wrap (IntKind.i64.wrap (k*r)+p.tdiv c)=w64 (k*r+p.tdiv c):=w64_addL _ _
 rw [e1]
 exact w64_mulL _ _
theorem siz_in (n:Nat→Int):(-9223372036854775808≤sizW n∧sizW n≤9223372036854775807)∧(-9223372036854775808≤sizH n∧sizH n≤9223372036854775807):=⟨w64_in _,w64_in _⟩
theorem pdo_six (t X Y H:Int) (ht:t=0∨t=4) (hX:-9223372036854775808≤X∧X≤9223372036854775807):(pdo t X Y 0 H).1=X∧(pdo t X Y 0 H).2=w64 (H+Y):=by
 rcases ht with rfl | rfl
 ·refine ⟨?_,rfl⟩
  show w64 (0+X)=X
  rw [Int.zero_add]
  exact w64_self hX
 ·refine ⟨?_,rfl⟩
  show w64 (0+X)=X
  rw [Int.zero_add]
  exact w64_self hX
theorem refOnto_any (cs:List Value) (n:Nat→Int) (c r k p lf:Int) (sa:Option Addr) (sn sc:Nat) (fx fy:Bool) (w:World) (h:NumC cs n) (hL:cs.length=33) (hc:1≤c∧c≤64) (hp:0≤p∧p≤4096) :
  Calls Try.prog 15 #[.agg cs.toArray,.agg #[.int .i64 c,.int .i64 r,.slice sa sn sc],.int .i64 k,.int .i64 p,.agg #[.int .i64 lf,.bool fx,.bool fy]] w fun e w'=>e=.returned (.agg #[.int .i64 (ontoP n c r k p fx fy).1,.int .i64 (ontoP n c r k p fx fy).2.1,.int .i64 (ontoP n c r k p fx fy).2.2])∧Below w.heap.size w w':=by
 have hq:0≤p.tdiv c∧p.tdiv c≤9000:=by
  rw [Int.tdiv_eq_ediv_of_nonneg hp.1]
  have h2:=Int.ediv_nonneg hp.1 (show 0≤c by omega)
  have h3:p / c≤p:=Int.ediv_le_self _ hp.1
  omega
 have hm:0≤p.tmod c∧p.tmod c≤64:=by
  rw [Int.tmod_eq_emod_of_nonneg hp.1]
  have h2:=Int.emod_nonneg p (show c≠0 by omega)
  have h3:=Int.emod_lt_of_pos p (show 0<c by omega)
  omega
 have hx:-9223372036854775808≤(if fx=true then w64 (boxX n c p+sizW n) else boxX n c p)∧(if fx=true then w64 (boxX n c p+sizW n) else boxX n c p)≤9223372036854775807:=by
  split<;>exact w64_in _
 have ht:(if fx=true then (4:Int) else 0)=0∨(if fx=true then (4:Int) else 0)=4:=by cases fx<;>simp
 obtain ⟨s1,s2⟩:=siz_in n
 have KT:=fun w=>refPthen_any 6 0 (sizH n) (if fx=true then 4 else 0) (if fx=true then w64 (boxX n c p+sizW n) else boxX n c p) (boxY n c r k p) w (by decide) (by decide) s2.1 s2.2
 obtain ⟨g1,g2⟩:=pdo_six (if fx=true then 4 else 0) (if fx=true then w64 (boxX n c p+sizW n) else boxX n c p) (boxY n c r k p) (sizH n) ht hx
 rw [g1,g2] at KT
 refine refOnto_core cs c r k p lf (sizW n) (sizH n) _ _ (boxX n c p) _ _ (boxY n c r k p) _ _ _ _ sa sn sc fx fy w hL hc.1 hc.2 rfl rfl hq.1 hq.2 hm.1 hm.2 rfl rfl rfl (boxY_eq n c r k p) rfl (fun w1=>refSize_any cs n w1 h) KT _ _ _ ?_ ?_ ?_
 ·unfold ontoP flipT
  cases fx<;>cases fy<;>rfl
 ·unfold ontoP
  cases fy<;>rfl
 ·unfold ontoP
  cases fy
  ·rfl
  ·simp only [if_true]
   rw [Int.add_comm]
theorem lies_onto (n:Nat→Int) (c r k p:Int) (fx fy:Bool) (h:inPan c r k p=true):backP (ontoP n c r k p fx fy).1 (ontoP n c r k p fx fy).2.1 (ontoP n c r k p fx fy).2.2=liesP n c r k p fx fy:=by
 unfold liesP
 rw [if_pos h]
 unfold ontoP backP flipT
 have hn:∀ z,IntKind.i64.wrap (0-z)=w64 (-z):=fun z=>by rw [Int.zero_sub];rfl
 have hg:∀ z,IntKind.i64.wrap (0-neg64 z)=w64 z:=fun z=>by
  rw [hn]
  show w64 (-w64 (-z))=w64 z
  rw [w64_neg,Int.neg_neg]
 have hn2:∀ z,IntKind.i64.wrap (-z)=w64 (-z):=fun z=>rfl
 have hg2:∀ z,w64 (-neg64 z)=w64 z:=fun z=>by have:=hg z;rwa [Int.zero_sub] at this
 have b0:backT 0=0:=by decide
 have b2:backT 2=2:=by decide
 have b4:backT 4=4:=by decide
 have b6:backT 6=6:=by decide
 have d0:∀ x y,doT 0 x y=(x,y):=fun x y=>rfl
 have d2:∀ x y,doT 2 x y=(neg64 x,neg64 y):=fun x y=>rfl
 have d4:∀ x y,doT 4 x y=(neg64 x,y):=fun x y=>rfl
 have d6:∀ x y,doT 6 x y=(x,neg64 y):=fun x y=>rfl
 cases fx<;>cases fy
 ·simp [b0,d0,hn2]
 ·simp [b6,d6,hn2,hg2,w64_w64]
 ·simp [b4,d4,hn2,hg2,w64_w64]
 ·exact Prod.ext_iff.2 ⟨b2,Prod.ext_iff.2 ⟨by simp only [if_true,b2,d2];rw [hg,w64_w64],by simp only [if_true,b2,d2];rw [hg,w64_w64]⟩⟩
theorem onto_in (n:Nat→Int) (c r k p:Int) (fx fy:Bool):(-9223372036854775808≤(ontoP n c r k p fx fy).2.1∧(ontoP n c r k p fx fy).2.1≤9223372036854775807)∧(-9223372036854775808≤(ontoP n c r k p fx fy).2.2∧(ontoP n c r k p fx fy).2.2≤9223372036854775807):=by
 unfold ontoP
 constructor
 ·simp only;split<;>exact w64_in _
 ·simp only;split<;>exact w64_in _
def emp4 (x0 y0 x1 y1:Int):Bool:=decide (x1≤x0) || decide (y1≤y0)
theorem ret_boolB {b c:Bool} (h:b=c):Ending.returned (.bool b)=.returned (.bool c):=by rw [h]
theorem refEmpty_any (x0 y0 x1 y1:Int) (w:World) :
  Calls Try.prog 44 #[.agg #[.int .i64 x0,.int .i64 y0,.int .i64 x1,.int .i64 y1]] w fun e w'=>e=.returned (.bool (emp4 x0 y0 x1 y1))∧w'=w.alloc (.cells #[.int .i64 x0,.int .i64 y0,.int .i64 x1,.int .i64 y1] 37):=by
 by_cases h:x1≤x0
 all_goals
  go_enter Try.func44,Try.ntmps44
  go_wp2
  go_ret
  exact ⟨ret_boolB (by simp [emp4];try omega),rfl⟩
def withinR (a0 a1 a2 a3 b0 b1 b2 b3:Int):Bool:=emp4 a0 a1 a2 a3 || (decide (b0≤a0)&&decide (a2≤b2)&&decide (b1≤a1)&&decide (a3≤b3))
def sum64 (a b:Int):Int:=IntKind.i64.wrap (a+b)
def dif64 (a b:Int):Int:=IntKind.i64.wrap (a-b)
theorem boxOf_any (x y v h:Int) (w:World) :
  Calls Try.prog 27 #[.int .i64 x,.int .i64 y,.int .i64 v,.int .i64 h] w fun e w'=>e=.returned (.agg #[.int .i64 x,.int .i64 y,.int .i64 (sum64 x v),.int .i64 (sum64 y h)])∧Below w.heap.size w w':=by
 obtain ⟨p,hp⟩:∃ p,IntKind.i64.wrap (x+v)=p:=⟨_,rfl⟩
 obtain ⟨q,hq⟩:∃ q,IntKind.i64.wrap (y+h)=q:=⟨_,rfl⟩
 unfold sum64
 rw [hp,hq]
 go_enter Try.func27,Try.ntmps27
 go_wp2
 refine bodyPost_ret (v:=.agg #[.int .i64 x,.int .i64 y,.int .i64 p,.int .i64 q]) (by simp [results,Try.results27,go_sem]) rfl ⟨rfl,?_⟩
 repeat (first | exact Below.refl _ _ | apply up_alloc | (refine up_set ?_ (by simp) _))
theorem refRectOf_any (x y v h:Int) (w:World) :
  Calls Try.prog 13 #[.int .i64 x,.int .i64 y,.int .i64 v,.int .i64 h] w fun e w'=>e=.returned (.agg #[.int .i64 x,.int .i64 y,.int .i64 (sum64 x v),.int .i64 (sum64 y h)])∧Below w.heap.size w w':=by
 obtain ⟨p,hp⟩:∃ p,IntKind.i64.wrap (x+v)=p:=⟨_,rfl⟩
 obtain ⟨q,hq⟩:∃ q,IntKind.i64.wrap (y+h)=q:=⟨_,rfl⟩
 unfold sum64
 rw [hp,hq]
 go_enter Try.func13,Try.ntmps13
 go_wp2
 refine bodyPost_ret (v:=.agg #[.int .i64 x,.int .i64 y,.int .i64 p,.int .i64 q]) (by simp [results,Try.results13,go_sem]) rfl ⟨rfl,?_⟩
 repeat (first | exact Below.refl _ _ | apply up_alloc | (refine up_set ?_ (by simp) _))
theorem boxGrow_any (a0 a1 a2 a3 l b r t:Int) (w:World) :
  Calls Try.prog 37 #[.agg #[.int .i64 a0,.int .i64 a1,.int .i64 a2,.int .i64 a3],.int .i64 l,.int .i64 b,.int .i64 r,.int .i64 t] w fun e w'=>e=.returned (.agg #[.int .i64 (dif64 a0 l),.int .i64 (dif64 a1 b),.int .i64 (sum64 a2 r),.int .i64 (sum64 a3 t)])∧Below w.heap.size w w':=by
 obtain ⟨p0,h0⟩:∃ p,IntKind.i64.wrap (a0-l)=p:=⟨_,rfl⟩
 obtain ⟨p1,h1⟩:∃ p,IntKind.i64.wrap (a1-b)=p:=⟨_,rfl⟩
 obtain ⟨p2,h2⟩:∃ p,IntKind.i64.wrap (a2+r)=p:=⟨_,rfl⟩
 obtain ⟨p3,h3⟩:∃ p,IntKind.i64.wrap (a3+t)=p:=⟨_,rfl⟩
 unfold sum64 dif64
 rw [h0,h1,h2,h3]
 go_enter Try.func37,Try.ntmps37
 go_wp2
 refine bodyPost_ret (v:=.agg #[.int .i64 p0,.int .i64 p1,.int .i64 p2,.int .i64 p3]) (by simp [results,Try.results37,go_sem]) rfl ⟨rfl,?_⟩
 repeat (first | exact Below.refl _ _ | apply up_alloc | (refine up_set ?_ (by simp) _))
theorem run_eq2 (a b:Int) (w:World):(binOp .eql 23 (.agg #[.int .i64 a,.int .i64 b]) (.agg #[.int .i64 a,.int .i64 b])).run Try.prog w=.ok (.bool true) w:=by simp [go_sem]
theorem run_eq3 (a b c:Int) (w:World):(binOp .eql 40 (.agg #[.int .i64 a,.int .i64 b,.int .i64 c]) (.agg #[.int .i64 a,.int .i64 b,.int .i64 c])).run Try.prog w=.ok (.bool true) w:=by simp [go_sem]
theorem run_eq4 (a b c d:Int) (w:World):(binOp .eql 37 (.agg #[.int .i64 a,.int .i64 b,.int .i64 c,.int .i64 d]) (.agg #[.int .i64 a,.int .i64 b,.int .i64 c,.int .i64 d])).run Try.prog w=.ok (.bool true) w:=by simp [go_sem]
end Go.Proofs.Ytnmmmedflmdpbaa
