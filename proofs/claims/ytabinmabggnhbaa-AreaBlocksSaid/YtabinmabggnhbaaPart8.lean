/- Part 8 of the texts that the proofs of this seat share: AreaList, AreaBlocksK, AreaRoomK. -/
import Derived.Test.YtabinmabggnhbaaPart7
import Derived.Test.YtabinmabggnhbaaPart5
set_option linter.unusedSimpArgs false
set_option linter.unusedVariables false
namespace Go.Proofs.Ytabinmabggnhbaa
open Go.RowKit
structure HeldU (n:Nat) (w:World) where
 now:World
 kept:∀ p:Addr,p.block<n→∀ v,w.cell? p=some v→now.cell? p=some v
instance (n:Nat) (w:World):Nonempty (HeldU n w):=⟨⟨w,fun _ _ _ h=>h⟩⟩
theorem HeldU.cell {n B o:Nat} {w:World} {v:Value} (u:HeldU n w) (hB:B<n) (h:w.cell? ⟨B,o,none⟩=some v):u.now.cell? ⟨B,o,none⟩=some v:=u.kept _ hB _ h
theorem heldU_drew (n:Nat) (w:World):∃ u:HeldU n w,w.drew=u.now:=⟨⟨w.drew,fun _ _ _ h=>h⟩,rfl⟩
theorem heldU_of {n:Nat} {w w':World} (h:Below n w w'):∃ u:HeldU n w,w'=u.now:=⟨⟨w',fun p hp v hv=>(h.cell hp).trans hv⟩,rfl⟩
theorem heldU_range {n:Nat} {w:World} {B:Nat} {cs:List Value} (hB:B<n) (h:Bx w B cs):∀ w',(∃ u:HeldU n w,w'=u.now)→w'.rangeAt B 0 cs:=by
 rintro _ ⟨u,rfl⟩ j v hj
 exact u.kept _ hB _ (by simpa using h.cell j hj)
theorem wp_region_callsU {P:Program} {id:Nat} {Q:Exit→Act→World→Prop} {a:Act} {w:World} {l:List Oper} (S:World→Prop) (plan:List (List Nat×Nat)) (fin:List Nat) (hm:P.follows .mixedOrders=true) (hB:planOk l plan fin=true)
  (hn:l.length=(plan.map fun x=>x.1.length+1).sum+fin.length) (hQ:∀ c (a:Act) d v w,Q (.panic c) (a.put d v) w→Q (.panic c) a w)
  (hS:S w.drew) (h:walkC P l Q S plan fin a w.drew):(Code.region id l.toArray true).wp P Q a w:=by
 simp only [planOk,Bool.and_eq_true] at hB
 refine wp_region_held_drew (S:=S) hm hS fun _=>?_
 have:=walkC_wp (S:=S) hB.1 hQ fin plan _ a w.drew hS hB.2 h 0
 rw [Nat.add_zero,←hn] at this
 simpa using this
set_option maxRecDepth 100000 in
set_option maxHeartbeats 1000000 in
theorem arBlocks_no (cs:List Value) (c r s:Int) (sa:Option Addr) (sn sc:Nat) (w:World) (hL:cs.length=33)
  (KM:∀ w1,Calls Try.prog 25 #[.agg cs.toArray,.agg #[.int .i64 c,.int .i64 r,.slice sa sn sc]] w1 fun e w'=>e=.returned (.bool false)∧Below w1.heap.size w1 w') :
  Calls Try.prog 12 #[.agg cs.toArray,.agg #[.int .i64 c,.int .i64 r,.slice sa sn sc],.int .i64 s] w fun e w'=>∃ a cap,e=.returned (.slice a ([]:List (Int×Int×Int×Int)).length cap)∧RcsA w' a ([]:List (Int×Int×Int×Int))∧Below w.heap.size w w':=by
 have G0:=Lib.hid (JFr.new w hL c r (.slice sa sn sc))
 have s0:=G0.out.s.cell 0 rfl;have s1:=G0.out.s.cell 1 rfl;have s2:=G0.out.s.cell 2 rfl
 have HL:=Lib.hid hL;have HM:=Lib.hid KM
 clear hL KM
 go_enter Try.func12,Try.ntmps12
 go_wp2_with (refine wpList_load_job rfl _ rfl w.heap.size rfl cs G0.out.x HL.out ?_;simp only [Act.put,List.setIfInBounds_toArray,List.set_cons_succ,List.set_cons_zero])
 refine (HM.out _).mono ?_
 rintro e w1 ⟨rfl,hb⟩
 have B1:=Lib.hid (up_trans G0.out.b hb)
 clear hb G0 s0 s1 s2
 go_wp2
 go_ret
 exact ⟨none,0,rfl,.inl rfl,B1.out⟩
set_option maxRecDepth 100000 in
set_option maxHeartbeats 2000000 in
theorem arBlocks_front (cs:List Value) (c r s st p X Y A0 A1 A2 B0 B1 B2 F0 F1 F2 F3 E0 E1 E2 E3:Int) (sa:Option Addr) (sn sc:Nat) (w:World) (hL:cs.length=33) (c16:cs[16]?=some (.int .i64 st)) (ha:(s==1)=true) (hb2:(s==2)=false) (hz:(p==1)=false)
  (KM:∀ w1,Calls Try.prog 25 #[.agg cs.toArray,.agg #[.int .i64 c,.int .i64 r,.slice sa sn sc]] w1 fun e w'=>e=.returned (.bool true)∧Below w1.heap.size w1 w')
  (KP:∀ w1,Calls Try.prog 38 #[.int .i64 st] w1 fun e w'=>e=.returned (.int .i64 p)∧Below w1.heap.size w1 w')
  (KA:∀ w1,Below w.heap.size w w1→Calls Try.prog 10 #[.agg cs.toArray,.agg #[.int .i64 c,.int .i64 r,.slice sa sn sc]] w1 fun e w'=>e=.returned (.agg #[.int .i64 A0,.int .i64 A1,.int .i64 A2])∧Below w1.heap.size w1 w')
  (KB:∀ w1,Below w.heap.size w w1→Calls Try.prog 11 #[.agg cs.toArray,.agg #[.int .i64 c,.int .i64 r,.slice sa sn sc]] w1 fun e w'=>e=.returned (.agg #[.int .i64 B0,.int .i64 B1,.int .i64 B2])∧Below w1.heap.size w1 w')
  (KW:∀ w1,Below w.heap.size w w1→Calls Try.prog 29 #[.agg cs.toArray,.agg #[.int .i64 c,.int .i64 r,.slice sa sn sc]] w1 fun e w'=>e=.returned (.agg #[.int .i64 0,.int .i64 0,.int .i64 X,.int .i64 Y])∧Below w1.heap.size w1 w')
  (K1:∀ w1,Calls Try.prog 27 #[.agg #[.int .i64 A0,.int .i64 A1,.int .i64 A2],.agg #[.int .i64 0,.int .i64 0,.int .i64 X,.int .i64 Y]] w1 fun e w'=>e=.returned (.agg #[.int .i64 F0,.int .i64 F1,.int .i64 F2,.int .i64 F3])∧Below w1.heap.size w1 w')
  (K2:∀ w1,Calls Try.prog 27 #[.agg #[.int .i64 B0,.int .i64 B1,.int .i64 B2],.agg #[.int .i64 0,.int .i64 0,.int .i64 X,.int .i64 Y]] w1 fun e w'=>e=.returned (.agg #[.int .i64 E0,.int .i64 E1,.int .i64 E2,.int .i64 E3])∧Below w1.heap.size w1 w') :
  Calls Try.prog 12 #[.agg cs.toArray,.agg #[.int .i64 c,.int .i64 r,.slice sa sn sc],.int .i64 s] w fun e w'=>∃ a cap,e=.returned (.slice a ([(F0,F1,F2,F3)]).length cap)∧RcsA w' a ([(F0,F1,F2,F3)])∧Below w.heap.size w w':=by
 have G0:=Lib.hid (JFr.new w hL c r (.slice sa sn sc))
 have s0:=G0.out.s.cell 0 rfl;have s1:=G0.out.s.cell 1 rfl;have s2:=G0.out.s.cell 2 rfl
 have HL:=Lib.hid hL;have HM:=Lib.hid KM;have HP:=Lib.hid KP;have HA:=Lib.hid KA;have HBk:=Lib.hid KB;have HW:=Lib.hid KW;have H1:=Lib.hid K1;have H2:=Lib.hid K2;have H16:=Lib.hid c16
 clear hL KM KP KA KB KW K1 K2 c16
 go_enter Try.func12,Try.ntmps12
 go_wp2_with (refine wpList_load_job rfl _ rfl w.heap.size rfl cs G0.out.x HL.out ?_;simp only [Act.put,List.setIfInBounds_toArray,List.set_cons_succ,List.set_cons_zero])
 refine (HM.out _).mono ?_
 rintro e w1 ⟨rfl,hb⟩
 have G1:=Lib.hid (G0.out.up HL.out hb)
 have b16:=G1.out.x.cell 16 H16.out
 clear hb G0 s0 s1 s2
 go_wp2_with fail
 refine (HP.out _).mono ?_
 rintro e w2 ⟨rfl,hb⟩
 have G2:=Lib.hid (G1.out.up HL.out hb)
 have O2:=Lib.hid (OwnQ.nil w2 (w.heap.size+1+1))
 clear hb G1 b16
 go_wp2_with fail
 have s0:=fun x:HeldU (w.heap.size+1+1) w2=>x.cell (by omega) (G2.out.s.cell 0 rfl);have s1:=fun x:HeldU (w.heap.size+1+1) w2=>x.cell (by omega) (G2.out.s.cell 1 rfl);have s2:=fun x:HeldU (w.heap.size+1+1) w2=>x.cell (by omega) (G2.out.s.cell 2 rfl)
 have HRG:=Lib.hid (heldU_range (n:=w.heap.size+1+1) (by omega) G2.out.x)
 have hlow:=G2.out.s.lt
 refine wp_region_callsU (fun w'=>∃ u:HeldU (w.heap.size+1+1) w2,w'=u.now) [([0,1,2,4,5],3),([],6),([],7),([],8),([],9)] [10] (by kernel_rfl) (by kernel_rfl) rfl (fun _ _ d _ _ h=>by cases d<;>exact h) (heldU_drew _ _) ?_
 refine walkC_take _ rfl (fun K0 hK0=>?_)
 simp only [List.map_cons,List.map_nil,List.getD_cons_zero,List.getD_cons_succ]
 repeat (first
  | (go_big_quiet_want;refine quiet_load_job _ rfl w.heap.size rfl cs HL.out HRG.out ?_;simp only [Act.put,List.setIfInBounds_toArray,List.set_cons_succ,List.set_cons_zero];go_big_quiet_on)
  | go_big_quiet_step (fail))
 refine wpQuiet_nil (hK0.out _ (fun K hK=>?_))
 go_simp
 refine (HA.out _ (up_drew G2.out.b)).mono ?_
 rintro e wa3 ⟨rfl,hb⟩
 have ZC1:=Lib.hid (up_trans (up_drew (Below.refl _ w2)) hb)
 refine hK.out _ _ (heldU_of (ZC1.out.mono (by omega))) ?_
 clear hK K hK0 K0 hb
 try simp only [List.setIfInBounds_toArray,List.set_cons_zero,List.set_cons_succ]
 refine walkC_take _ rfl (fun K0 hK0=>?_)
 simp only [List.map_nil,List.getD_cons_zero,List.getD_cons_succ]
 refine wpQuiet_nil (hK0.out _ (fun K hK=>?_))
 go_simp
 refine (HW.out _ (up_trans G2.out.b ZC1.out)).mono ?_
 rintro e wb3 ⟨rfl,hb⟩
 have ZC2:=Lib.hid (up_trans ZC1.out hb)
 refine hK.out _ _ (heldU_of (ZC2.out.mono (by omega))) ?_
 clear hK K hK0 K0 hb ZC1
 try simp only [List.setIfInBounds_toArray,List.set_cons_zero,List.set_cons_succ]
 refine walkC_take _ rfl (fun K0 hK0=>?_)
 simp only [List.map_nil,List.getD_cons_zero,List.getD_cons_succ]
 refine wpQuiet_nil (hK0.out _ (fun K hK=>?_))
 go_simp
 refine (H1.out _).mono ?_
 rintro e wc3 ⟨rfl,hb⟩
 have ZC3:=Lib.hid (up_trans ZC2.out hb)
 refine hK.out _ _ (heldU_of (ZC3.out.mono (by omega))) ?_
 clear hK K hK0 K0 hb ZC2
 try simp only [List.setIfInBounds_toArray,List.set_cons_zero,List.set_cons_succ]
 refine walkC_take _ rfl (fun K0 hK0=>?_)
 simp only [List.map_nil,List.getD_cons_zero,List.getD_cons_succ]
 refine wpQuiet_nil (hK0.out _ (fun K hK=>?_))
 go_simp
 have ZC4:=Lib.hid (up_alloc ZC3.out (.cells #[.int .i64 F0,.int .i64 F1,.int .i64 F2,.int .i64 F3] 40))
 have ZT4:=Lib.hid (Bx.new wc3 40 [.int .i64 F0,.int .i64 F1,.int .i64 F2,.int .i64 F3])
 have ZO4:=Lib.hid (O2.out.up ZC4.out)
 have hsz:=ZC3.out.size
 refine hK.out _ _ (heldU_of (ZC4.out.mono (by omega))) ?_
 clear hK K hK0 K0
 try simp only [List.setIfInBounds_toArray,List.set_cons_zero,List.set_cons_succ]
 refine walkC_take _ rfl (fun K0 hK0=>?_)
 simp only [List.map_nil,List.getD_cons_zero,List.getD_cons_succ]
 refine wpQuiet_nil (hK0.out _ (fun K hK=>?_))
 refine step_append_rc rfl _ _ rfl (w.heap.size+1+1) _ [] rfl ZO4.out (by simp only [World.size_alloc];omega) (F0,F1,F2,F3) wc3.heap.size rfl ZT4.out (by simp) ?_
 intro v3 w3 hown hb
 have G3:=Lib.hid ((G2.out.up HL.out ZC4.out).under hb)
 have O3:=Lib.hid hown
 refine hK.out _ _ (heldU_of ((ZC4.out.mono (by omega)).trans hb)) ?_
 clear hK K hK0 K0 hb hown ZC3 ZC4 ZT4 ZO4
 try simp only [Act.put,List.setIfInBounds_toArray,List.set_cons_zero,List.set_cons_succ]
 refine walkC_last (fun K0 hK0=>?_)
 simp only [List.map_cons,List.map_nil,List.getD_cons_zero,List.getD_cons_succ]
 repeat (go_big_quiet_step (fail))
 refine wpQuiet_nil (hK0.out _ ?_)
 clear hK0 K0 s0 s1 s2 HRG
 obtain ⟨ax,cx,rfl,hQ⟩:=O3.out.tells
 have BB:=Lib.hid G3.out.b
 clear G3 O3
 go_wp2
 go_ret
 exact ⟨ax,cx,rfl,hQ,BB.out⟩
set_option maxRecDepth 100000 in
set_option maxHeartbeats 2000000 in
theorem arBlocks_both (cs:List Value) (c r s st p X Y A0 A1 A2 B0 B1 B2 F0 F1 F2 F3 E0 E1 E2 E3:Int) (sa:Option Addr) (sn sc:Nat) (w:World) (hL:cs.length=33) (c16:cs[16]?=some (.int .i64 st)) (ha:(s==1)=true) (hb2:(s==2)=false) (hz:(p==1)=true)
  (KM:∀ w1,Calls Try.prog 25 #[.agg cs.toArray,.agg #[.int .i64 c,.int .i64 r,.slice sa sn sc]] w1 fun e w'=>e=.returned (.bool true)∧Below w1.heap.size w1 w')
  (KP:∀ w1,Calls Try.prog 38 #[.int .i64 st] w1 fun e w'=>e=.returned (.int .i64 p)∧Below w1.heap.size w1 w')
  (KA:∀ w1,Below w.heap.size w w1→Calls Try.prog 10 #[.agg cs.toArray,.agg #[.int .i64 c,.int .i64 r,.slice sa sn sc]] w1 fun e w'=>e=.returned (.agg #[.int .i64 A0,.int .i64 A1,.int .i64 A2])∧Below w1.heap.size w1 w')
  (KB:∀ w1,Below w.heap.size w w1→Calls Try.prog 11 #[.agg cs.toArray,.agg #[.int .i64 c,.int .i64 r,.slice sa sn sc]] w1 fun e w'=>e=.returned (.agg #[.int .i64 B0,.int .i64 B1,.int .i64 B2])∧Below w1.heap.size w1 w')
  (KW:∀ w1,Below w.heap.size w w1→Calls Try.prog 29 #[.agg cs.toArray,.agg #[.int .i64 c,.int .i64 r,.slice sa sn sc]] w1 fun e w'=>e=.returned (.agg #[.int .i64 0,.int .i64 0,.int .i64 X,.int .i64 Y])∧Below w1.heap.size w1 w')
  (K1:∀ w1,Calls Try.prog 27 #[.agg #[.int .i64 A0,.int .i64 A1,.int .i64 A2],.agg #[.int .i64 0,.int .i64 0,.int .i64 X,.int .i64 Y]] w1 fun e w'=>e=.returned (.agg #[.int .i64 F0,.int .i64 F1,.int .i64 F2,.int .i64 F3])∧Below w1.heap.size w1 w')
  (K2:∀ w1,Calls Try.prog 27 #[.agg #[.int .i64 B0,.int .i64 B1,.int .i64 B2],.agg #[.int .i64 0,.int .i64 0,.int .i64 X,.int .i64 Y]] w1 fun e w'=>e=.returned (.agg #[.int .i64 E0,.int .i64 E1,.int .i64 E2,.int .i64 E3])∧Below w1.heap.size w1 w') :
  Calls Try.prog 12 #[.agg cs.toArray,.agg #[.int .i64 c,.int .i64 r,.slice sa sn sc],.int .i64 s] w fun e w'=>∃ a cap,e=.returned (.slice a ([(F0,F1,F2,F3),(E0,E1,E2,E3)]).length cap)∧RcsA w' a ([(F0,F1,F2,F3),(E0,E1,E2,E3)])∧Below w.heap.size w w':=by
 have G0:=Lib.hid (JFr.new w hL c r (.slice sa sn sc))
 have s0:=G0.out.s.cell 0 rfl;have s1:=G0.out.s.cell 1 rfl;have s2:=G0.out.s.cell 2 rfl
 have HL:=Lib.hid hL;have HM:=Lib.hid KM;have HP:=Lib.hid KP;have HA:=Lib.hid KA;have HBk:=Lib.hid KB;have HW:=Lib.hid KW;have H1:=Lib.hid K1;have H2:=Lib.hid K2;have H16:=Lib.hid c16
 clear hL KM KP KA KB KW K1 K2 c16
 go_enter Try.func12,Try.ntmps12
 go_wp2_with (refine wpList_load_job rfl _ rfl w.heap.size rfl cs G0.out.x HL.out ?_;simp only [Act.put,List.setIfInBounds_toArray,List.set_cons_succ,List.set_cons_zero])
 refine (HM.out _).mono ?_
 rintro e w1 ⟨rfl,hb⟩
 have G1:=Lib.hid (G0.out.up HL.out hb)
 have b16:=G1.out.x.cell 16 H16.out
 clear hb G0 s0 s1 s2
 go_wp2_with fail
 refine (HP.out _).mono ?_
 rintro e w2 ⟨rfl,hb⟩
 have G2:=Lib.hid (G1.out.up HL.out hb)
 have O2:=Lib.hid (OwnQ.nil w2 (w.heap.size+1+1))
 clear hb G1 b16
 go_wp2_with fail
 have s0:=fun x:HeldU (w.heap.size+1+1) w2=>x.cell (by omega) (G2.out.s.cell 0 rfl);have s1:=fun x:HeldU (w.heap.size+1+1) w2=>x.cell (by omega) (G2.out.s.cell 1 rfl);have s2:=fun x:HeldU (w.heap.size+1+1) w2=>x.cell (by omega) (G2.out.s.cell 2 rfl)
 have HRG:=Lib.hid (heldU_range (n:=w.heap.size+1+1) (by omega) G2.out.x)
 have hlow:=G2.out.s.lt
 refine wp_region_callsU (fun w'=>∃ u:HeldU (w.heap.size+1+1) w2,w'=u.now) [([0,1,2,4,5],3),([],6),([],7),([],8),([],9)] [10] (by kernel_rfl) (by kernel_rfl) rfl (fun _ _ d _ _ h=>by cases d<;>exact h) (heldU_drew _ _) ?_
 refine walkC_take _ rfl (fun K0 hK0=>?_)
 simp only [List.map_cons,List.map_nil,List.getD_cons_zero,List.getD_cons_succ]
 repeat (first
  | (go_big_quiet_want;refine quiet_load_job _ rfl w.heap.size rfl cs HL.out HRG.out ?_;simp only [Act.put,List.setIfInBounds_toArray,List.set_cons_succ,List.set_cons_zero];go_big_quiet_on)
  | go_big_quiet_step (fail))
 refine wpQuiet_nil (hK0.out _ (fun K hK=>?_))
 go_simp
 refine (HA.out _ (up_drew G2.out.b)).mono ?_
 rintro e wa3 ⟨rfl,hb⟩
 have ZC1:=Lib.hid (up_trans (up_drew (Below.refl _ w2)) hb)
 refine hK.out _ _ (heldU_of (ZC1.out.mono (by omega))) ?_
 clear hK K hK0 K0 hb
 try simp only [List.setIfInBounds_toArray,List.set_cons_zero,List.set_cons_succ]
 refine walkC_take _ rfl (fun K0 hK0=>?_)
 simp only [List.map_nil,List.getD_cons_zero,List.getD_cons_succ]
 refine wpQuiet_nil (hK0.out _ (fun K hK=>?_))
 go_simp
 refine (HW.out _ (up_trans G2.out.b ZC1.out)).mono ?_
 rintro e wb3 ⟨rfl,hb⟩
 have ZC2:=Lib.hid (up_trans ZC1.out hb)
 refine hK.out _ _ (heldU_of (ZC2.out.mono (by omega))) ?_
 clear hK K hK0 K0 hb ZC1
 try simp only [List.setIfInBounds_toArray,List.set_cons_zero,List.set_cons_succ]
 refine walkC_take _ rfl (fun K0 hK0=>?_)
 simp only [List.map_nil,List.getD_cons_zero,List.getD_cons_succ]
 refine wpQuiet_nil (hK0.out _ (fun K hK=>?_))
 go_simp
 refine (H1.out _).mono ?_
 rintro e wc3 ⟨rfl,hb⟩
 have ZC3:=Lib.hid (up_trans ZC2.out hb)
 refine hK.out _ _ (heldU_of (ZC3.out.mono (by omega))) ?_
 clear hK K hK0 K0 hb ZC2
 try simp only [List.setIfInBounds_toArray,List.set_cons_zero,List.set_cons_succ]
 refine walkC_take _ rfl (fun K0 hK0=>?_)
 simp only [List.map_nil,List.getD_cons_zero,List.getD_cons_succ]
 refine wpQuiet_nil (hK0.out _ (fun K hK=>?_))
 go_simp
 have ZC4:=Lib.hid (up_alloc ZC3.out (.cells #[.int .i64 F0,.int .i64 F1,.int .i64 F2,.int .i64 F3] 40))
 have ZT4:=Lib.hid (Bx.new wc3 40 [.int .i64 F0,.int .i64 F1,.int .i64 F2,.int .i64 F3])
 have ZO4:=Lib.hid (O2.out.up ZC4.out)
 have hsz:=ZC3.out.size
 refine hK.out _ _ (heldU_of (ZC4.out.mono (by omega))) ?_
 clear hK K hK0 K0
 try simp only [List.setIfInBounds_toArray,List.set_cons_zero,List.set_cons_succ]
 refine walkC_take _ rfl (fun K0 hK0=>?_)
 simp only [List.map_nil,List.getD_cons_zero,List.getD_cons_succ]
 refine wpQuiet_nil (hK0.out _ (fun K hK=>?_))
 refine step_append_rc rfl _ _ rfl (w.heap.size+1+1) _ [] rfl ZO4.out (by simp only [World.size_alloc];omega) (F0,F1,F2,F3) wc3.heap.size rfl ZT4.out (by simp) ?_
 intro v3 w3 hown hb
 have G3:=Lib.hid ((G2.out.up HL.out ZC4.out).under hb)
 have O3:=Lib.hid hown
 refine hK.out _ _ (heldU_of ((ZC4.out.mono (by omega)).trans hb)) ?_
 clear hK K hK0 K0 hb hown ZC3 ZC4 ZT4 ZO4
 try simp only [Act.put,List.setIfInBounds_toArray,List.set_cons_zero,List.set_cons_succ]
 refine walkC_last (fun K0 hK0=>?_)
 simp only [List.map_cons,List.map_nil,List.getD_cons_zero,List.getD_cons_succ]
 repeat (go_big_quiet_step (fail))
 refine wpQuiet_nil (hK0.out _ ?_)
 clear hK0 K0 s0 s1 s2 HRG
 go_wp2_with fail
 have s0:=fun x:HeldU (w.heap.size+1+1) w3=>x.cell (by omega) (G3.out.s.cell 0 rfl);have s1:=fun x:HeldU (w.heap.size+1+1) w3=>x.cell (by omega) (G3.out.s.cell 1 rfl);have s2:=fun x:HeldU (w.heap.size+1+1) w3=>x.cell (by omega) (G3.out.s.cell 2 rfl)
 have HRG:=Lib.hid (heldU_range (n:=w.heap.size+1+1) (by omega) G3.out.x)
 have hlow:=G3.out.s.lt
 refine wp_region_callsU (fun w'=>∃ u:HeldU (w.heap.size+1+1) w3,w'=u.now) [([0,1,2,4,5],3),([],6),([],7),([],8),([],9)] [10] (by kernel_rfl) (by kernel_rfl) rfl (fun _ _ d _ _ h=>by cases d<;>exact h) (heldU_drew _ _) ?_
 refine walkC_take _ rfl (fun K0 hK0=>?_)
 simp only [List.map_cons,List.map_nil,List.getD_cons_zero,List.getD_cons_succ]
 repeat (first
  | (go_big_quiet_want;refine quiet_load_job _ rfl w.heap.size rfl cs HL.out HRG.out ?_;simp only [Act.put,List.setIfInBounds_toArray,List.set_cons_succ,List.set_cons_zero];go_big_quiet_on)
  | go_big_quiet_step (fail))
 refine wpQuiet_nil (hK0.out _ (fun K hK=>?_))
 go_simp
 refine (HBk.out _ (up_drew G3.out.b)).mono ?_
 rintro e wa4 ⟨rfl,hb⟩
 have ZC1:=Lib.hid (up_trans (up_drew (Below.refl _ w3)) hb)
 refine hK.out _ _ (heldU_of (ZC1.out.mono (by omega))) ?_
 clear hK K hK0 K0 hb
 try simp only [List.setIfInBounds_toArray,List.set_cons_zero,List.set_cons_succ]
 refine walkC_take _ rfl (fun K0 hK0=>?_)
 simp only [List.map_nil,List.getD_cons_zero,List.getD_cons_succ]
 refine wpQuiet_nil (hK0.out _ (fun K hK=>?_))
 go_simp
 refine (HW.out _ (up_trans G3.out.b ZC1.out)).mono ?_
 rintro e wb4 ⟨rfl,hb⟩
 have ZC2:=Lib.hid (up_trans ZC1.out hb)
 refine hK.out _ _ (heldU_of (ZC2.out.mono (by omega))) ?_
 clear hK K hK0 K0 hb ZC1
 try simp only [List.setIfInBounds_toArray,List.set_cons_zero,List.set_cons_succ]
 refine walkC_take _ rfl (fun K0 hK0=>?_)
 simp only [List.map_nil,List.getD_cons_zero,List.getD_cons_succ]
 refine wpQuiet_nil (hK0.out _ (fun K hK=>?_))
 go_simp
 refine (H2.out _).mono ?_
 rintro e wc4 ⟨rfl,hb⟩
 have ZC3:=Lib.hid (up_trans ZC2.out hb)
 refine hK.out _ _ (heldU_of (ZC3.out.mono (by omega))) ?_
 clear hK K hK0 K0 hb ZC2
 try simp only [List.setIfInBounds_toArray,List.set_cons_zero,List.set_cons_succ]
 refine walkC_take _ rfl (fun K0 hK0=>?_)
 simp only [List.map_nil,List.getD_cons_zero,List.getD_cons_succ]
 refine wpQuiet_nil (hK0.out _ (fun K hK=>?_))
 go_simp
 have ZC4:=Lib.hid (up_alloc ZC3.out (.cells #[.int .i64 E0,.int .i64 E1,.int .i64 E2,.int .i64 E3] 40))
 have ZT4:=Lib.hid (Bx.new wc4 40 [.int .i64 E0,.int .i64 E1,.int .i64 E2,.int .i64 E3])
 have ZO4:=Lib.hid (O3.out.up ZC4.out)
 have hsz:=ZC3.out.size
 refine hK.out _ _ (heldU_of (ZC4.out.mono (by omega))) ?_
 clear hK K hK0 K0
 try simp only [List.setIfInBounds_toArray,List.set_cons_zero,List.set_cons_succ]
 refine walkC_take _ rfl (fun K0 hK0=>?_)
 simp only [List.map_nil,List.getD_cons_zero,List.getD_cons_succ]
 refine wpQuiet_nil (hK0.out _ (fun K hK=>?_))
 refine step_append_rc rfl _ _ rfl (w.heap.size+1+1) _ [(F0,F1,F2,F3)] rfl ZO4.out (by simp only [World.size_alloc];omega) (E0,E1,E2,E3) wc4.heap.size rfl ZT4.out (by simp) ?_
 intro v4 w4 hown hb
 have G4:=Lib.hid ((G3.out.up HL.out ZC4.out).under hb)
 have O4:=Lib.hid hown
 refine hK.out _ _ (heldU_of ((ZC4.out.mono (by omega)).trans hb)) ?_
 clear hK K hK0 K0 hb hown ZC3 ZC4 ZT4 ZO4
 try simp only [Act.put,List.setIfInBounds_toArray,List.set_cons_zero,List.set_cons_succ]
 refine walkC_last (fun K0 hK0=>?_)
 simp only [List.map_cons,List.map_nil,List.getD_cons_zero,List.getD_cons_succ]
 repeat (go_big_quiet_step (fail))
 refine wpQuiet_nil (hK0.out _ ?_)
 clear hK0 K0 s0 s1 s2 HRG
 obtain ⟨ax,cx,rfl,hQ⟩:=O4.out.tells
 have BB:=Lib.hid G4.out.b
 clear G4 O4
 go_wp2
 go_ret
 exact ⟨ax,cx,rfl,hQ,BB.out⟩
set_option maxRecDepth 100000 in
set_option maxHeartbeats 2000000 in
theorem arBlocks_back (cs:List Value) (c r s st p X Y A0 A1 A2 B0 B1 B2 F0 F1 F2 F3 E0 E1 E2 E3:Int) (sa:Option Addr) (sn sc:Nat) (w:World) (hL:cs.length=33) (c16:cs[16]?=some (.int .i64 st)) (ha:(s==1)=false) (hb2:(s==2)=true) (hz:(p==1)=false)
  (KM:∀ w1,Calls Try.prog 25 #[.agg cs.toArray,.agg #[.int .i64 c,.int .i64 r,.slice sa sn sc]] w1 fun e w'=>e=.returned (.bool true)∧Below w1.heap.size w1 w')
  (KP:∀ w1,Calls Try.prog 38 #[.int .i64 st] w1 fun e w'=>e=.returned (.int .i64 p)∧Below w1.heap.size w1 w')
  (KA:∀ w1,Below w.heap.size w w1→Calls Try.prog 10 #[.agg cs.toArray,.agg #[.int .i64 c,.int .i64 r,.slice sa sn sc]] w1 fun e w'=>e=.returned (.agg #[.int .i64 A0,.int .i64 A1,.int .i64 A2])∧Below w1.heap.size w1 w')
  (KB:∀ w1,Below w.heap.size w w1→Calls Try.prog 11 #[.agg cs.toArray,.agg #[.int .i64 c,.int .i64 r,.slice sa sn sc]] w1 fun e w'=>e=.returned (.agg #[.int .i64 B0,.int .i64 B1,.int .i64 B2])∧Below w1.heap.size w1 w')
  (KW:∀ w1,Below w.heap.size w w1→Calls Try.prog 29 #[.agg cs.toArray,.agg #[.int .i64 c,.int .i64 r,.slice sa sn sc]] w1 fun e w'=>e=.returned (.agg #[.int .i64 0,.int .i64 0,.int .i64 X,.int .i64 Y])∧Below w1.heap.size w1 w')
  (K1:∀ w1,Calls Try.prog 27 #[.agg #[.int .i64 A0,.int .i64 A1,.int .i64 A2],.agg #[.int .i64 0,.int .i64 0,.int .i64 X,.int .i64 Y]] w1 fun e w'=>e=.returned (.agg #[.int .i64 F0,.int .i64 F1,.int .i64 F2,.int .i64 F3])∧Below w1.heap.size w1 w')
  (K2:∀ w1,Calls Try.prog 27 #[.agg #[.int .i64 B0,.int .i64 B1,.int .i64 B2],.agg #[.int .i64 0,.int .i64 0,.int .i64 X,.int .i64 Y]] w1 fun e w'=>e=.returned (.agg #[.int .i64 E0,.int .i64 E1,.int .i64 E2,.int .i64 E3])∧Below w1.heap.size w1 w') :
  Calls Try.prog 12 #[.agg cs.toArray,.agg #[.int .i64 c,.int .i64 r,.slice sa sn sc],.int .i64 s] w fun e w'=>∃ a cap,e=.returned (.slice a ([(E0,E1,E2,E3)]).length cap)∧RcsA w' a ([(E0,E1,E2,E3)])∧Below w.heap.size w w':=by
 have G0:=Lib.hid (JFr.new w hL c r (.slice sa sn sc))
 have s0:=G0.out.s.cell 0 rfl;have s1:=G0.out.s.cell 1 rfl;have s2:=G0.out.s.cell 2 rfl
 have HL:=Lib.hid hL;have HM:=Lib.hid KM;have HP:=Lib.hid KP;have HA:=Lib.hid KA;have HBk:=Lib.hid KB;have HW:=Lib.hid KW;have H1:=Lib.hid K1;have H2:=Lib.hid K2;have H16:=Lib.hid c16
 clear hL KM KP KA KB KW K1 K2 c16
 go_enter Try.func12,Try.ntmps12
 go_wp2_with (refine wpList_load_job rfl _ rfl w.heap.size rfl cs G0.out.x HL.out ?_;simp only [Act.put,List.setIfInBounds_toArray,List.set_cons_succ,List.set_cons_zero])
 refine (HM.out _).mono ?_
 rintro e w1 ⟨rfl,hb⟩
 have G1:=Lib.hid (G0.out.up HL.out hb)
 have b16:=G1.out.x.cell 16 H16.out
 clear hb G0 s0 s1 s2
 go_wp2_with fail
 refine (HP.out _).mono ?_
 rintro e w2 ⟨rfl,hb⟩
 have G2:=Lib.hid (G1.out.up HL.out hb)
 have O2:=Lib.hid (OwnQ.nil w2 (w.heap.size+1+1))
 clear hb G1 b16
 go_wp2_with fail
 have s0:=fun x:HeldU (w.heap.size+1+1) w2=>x.cell (by omega) (G2.out.s.cell 0 rfl);have s1:=fun x:HeldU (w.heap.size+1+1) w2=>x.cell (by omega) (G2.out.s.cell 1 rfl);have s2:=fun x:HeldU (w.heap.size+1+1) w2=>x.cell (by omega) (G2.out.s.cell 2 rfl)
 have HRG:=Lib.hid (heldU_range (n:=w.heap.size+1+1) (by omega) G2.out.x)
 have hlow:=G2.out.s.lt
 refine wp_region_callsU (fun w'=>∃ u:HeldU (w.heap.size+1+1) w2,w'=u.now) [([0,1,2,4,5],3),([],6),([],7),([],8),([],9)] [10] (by kernel_rfl) (by kernel_rfl) rfl (fun _ _ d _ _ h=>by cases d<;>exact h) (heldU_drew _ _) ?_
 refine walkC_take _ rfl (fun K0 hK0=>?_)
 simp only [List.map_cons,List.map_nil,List.getD_cons_zero,List.getD_cons_succ]
 repeat (first
  | (go_big_quiet_want;refine quiet_load_job _ rfl w.heap.size rfl cs HL.out HRG.out ?_;simp only [Act.put,List.setIfInBounds_toArray,List.set_cons_succ,List.set_cons_zero];go_big_quiet_on)
  | go_big_quiet_step (fail))
 refine wpQuiet_nil (hK0.out _ (fun K hK=>?_))
 go_simp
 refine (HBk.out _ (up_drew G2.out.b)).mono ?_
 rintro e wa3 ⟨rfl,hb⟩
 have ZC1:=Lib.hid (up_trans (up_drew (Below.refl _ w2)) hb)
 refine hK.out _ _ (heldU_of (ZC1.out.mono (by omega))) ?_
 clear hK K hK0 K0 hb
 try simp only [List.setIfInBounds_toArray,List.set_cons_zero,List.set_cons_succ]
 refine walkC_take _ rfl (fun K0 hK0=>?_)
 simp only [List.map_nil,List.getD_cons_zero,List.getD_cons_succ]
 refine wpQuiet_nil (hK0.out _ (fun K hK=>?_))
 go_simp
 refine (HW.out _ (up_trans G2.out.b ZC1.out)).mono ?_
 rintro e wb3 ⟨rfl,hb⟩
 have ZC2:=Lib.hid (up_trans ZC1.out hb)
 refine hK.out _ _ (heldU_of (ZC2.out.mono (by omega))) ?_
 clear hK K hK0 K0 hb ZC1
 try simp only [List.setIfInBounds_toArray,List.set_cons_zero,List.set_cons_succ]
 refine walkC_take _ rfl (fun K0 hK0=>?_)
 simp only [List.map_nil,List.getD_cons_zero,List.getD_cons_succ]
 refine wpQuiet_nil (hK0.out _ (fun K hK=>?_))
 go_simp
 refine (H2.out _).mono ?_
 rintro e wc3 ⟨rfl,hb⟩
 have ZC3:=Lib.hid (up_trans ZC2.out hb)
 refine hK.out _ _ (heldU_of (ZC3.out.mono (by omega))) ?_
 clear hK K hK0 K0 hb ZC2
 try simp only [List.setIfInBounds_toArray,List.set_cons_zero,List.set_cons_succ]
 refine walkC_take _ rfl (fun K0 hK0=>?_)
 simp only [List.map_nil,List.getD_cons_zero,List.getD_cons_succ]
 refine wpQuiet_nil (hK0.out _ (fun K hK=>?_))
 go_simp
 have ZC4:=Lib.hid (up_alloc ZC3.out (.cells #[.int .i64 E0,.int .i64 E1,.int .i64 E2,.int .i64 E3] 40))
 have ZT4:=Lib.hid (Bx.new wc3 40 [.int .i64 E0,.int .i64 E1,.int .i64 E2,.int .i64 E3])
 have ZO4:=Lib.hid (O2.out.up ZC4.out)
 have hsz:=ZC3.out.size
 refine hK.out _ _ (heldU_of (ZC4.out.mono (by omega))) ?_
 clear hK K hK0 K0
 try simp only [List.setIfInBounds_toArray,List.set_cons_zero,List.set_cons_succ]
 refine walkC_take _ rfl (fun K0 hK0=>?_)
 simp only [List.map_nil,List.getD_cons_zero,List.getD_cons_succ]
 refine wpQuiet_nil (hK0.out _ (fun K hK=>?_))
 refine step_append_rc rfl _ _ rfl (w.heap.size+1+1) _ [] rfl ZO4.out (by simp only [World.size_alloc];omega) (E0,E1,E2,E3) wc3.heap.size rfl ZT4.out (by simp) ?_
 intro v3 w3 hown hb
 have G3:=Lib.hid ((G2.out.up HL.out ZC4.out).under hb)
 have O3:=Lib.hid hown
 refine hK.out _ _ (heldU_of ((ZC4.out.mono (by omega)).trans hb)) ?_
 clear hK K hK0 K0 hb hown ZC3 ZC4 ZT4 ZO4
 try simp only [Act.put,List.setIfInBounds_toArray,List.set_cons_zero,List.set_cons_succ]
 refine walkC_last (fun K0 hK0=>?_)
 simp only [List.map_cons,List.map_nil,List.getD_cons_zero,List.getD_cons_succ]
 repeat (go_big_quiet_step (fail))
 refine wpQuiet_nil (hK0.out _ ?_)
 clear hK0 K0 s0 s1 s2 HRG
 obtain ⟨ax,cx,rfl,hQ⟩:=O3.out.tells
 have BB:=Lib.hid G3.out.b
 clear G3 O3
 go_wp2
 go_ret
 exact ⟨ax,cx,rfl,hQ,BB.out⟩
set_option maxRecDepth 100000 in
set_option maxHeartbeats 2000000 in
theorem arBlocks_none (cs:List Value) (c r s st p X Y A0 A1 A2 B0 B1 B2 F0 F1 F2 F3 E0 E1 E2 E3:Int) (sa:Option Addr) (sn sc:Nat) (w:World) (hL:cs.length=33) (c16:cs[16]?=some (.int .i64 st)) (u:Bool) (ha:(s==1)=false) (hb2:(s==2)=u) (hz:(p==1)=u)
  (KM:∀ w1,Calls Try.prog 25 #[.agg cs.toArray,.agg #[.int .i64 c,.int .i64 r,.slice sa sn sc]] w1 fun e w'=>e=.returned (.bool true)∧Below w1.heap.size w1 w')
  (KP:∀ w1,Calls Try.prog 38 #[.int .i64 st] w1 fun e w'=>e=.returned (.int .i64 p)∧Below w1.heap.size w1 w')
  (KA:∀ w1,Below w.heap.size w w1→Calls Try.prog 10 #[.agg cs.toArray,.agg #[.int .i64 c,.int .i64 r,.slice sa sn sc]] w1 fun e w'=>e=.returned (.agg #[.int .i64 A0,.int .i64 A1,.int .i64 A2])∧Below w1.heap.size w1 w')
  (KB:∀ w1,Below w.heap.size w w1→Calls Try.prog 11 #[.agg cs.toArray,.agg #[.int .i64 c,.int .i64 r,.slice sa sn sc]] w1 fun e w'=>e=.returned (.agg #[.int .i64 B0,.int .i64 B1,.int .i64 B2])∧Below w1.heap.size w1 w')
  (KW:∀ w1,Below w.heap.size w w1→Calls Try.prog 29 #[.agg cs.toArray,.agg #[.int .i64 c,.int .i64 r,.slice sa sn sc]] w1 fun e w'=>e=.returned (.agg #[.int .i64 0,.int .i64 0,.int .i64 X,.int .i64 Y])∧Below w1.heap.size w1 w')
  (K1:∀ w1,Calls Try.prog 27 #[.agg #[.int .i64 A0,.int .i64 A1,.int .i64 A2],.agg #[.int .i64 0,.int .i64 0,.int .i64 X,.int .i64 Y]] w1 fun e w'=>e=.returned (.agg #[.int .i64 F0,.int .i64 F1,.int .i64 F2,.int .i64 F3])∧Below w1.heap.size w1 w')
  (K2:∀ w1,Calls Try.prog 27 #[.agg #[.int .i64 B0,.int .i64 B1,.int .i64 B2],.agg #[.int .i64 0,.int .i64 0,.int .i64 X,.int .i64 Y]] w1 fun e w'=>e=.returned (.agg #[.int .i64 E0,.int .i64 E1,.int .i64 E2,.int .i64 E3])∧Below w1.heap.size w1 w') :
  Calls Try.prog 12 #[.agg cs.toArray,.agg #[.int .i64 c,.int .i64 r,.slice sa sn sc],.int .i64 s] w fun e w'=>∃ a cap,e=.returned (.slice a ([]:List (Int×Int×Int×Int)).length cap)∧RcsA w' a ([]:List (Int×Int×Int×Int))∧Below w.heap.size w w':=by
 have G0:=Lib.hid (JFr.new w hL c r (.slice sa sn sc))
 have s0:=G0.out.s.cell 0 rfl;have s1:=G0.out.s.cell 1 rfl;have s2:=G0.out.s.cell 2 rfl
 have HL:=Lib.hid hL;have HM:=Lib.hid KM;have HP:=Lib.hid KP;have HA:=Lib.hid KA;have HBk:=Lib.hid KB;have HW:=Lib.hid KW;have H1:=Lib.hid K1;have H2:=Lib.hid K2;have H16:=Lib.hid c16
 clear hL KM KP KA KB KW K1 K2 c16
 go_enter Try.func12,Try.ntmps12
 go_wp2_with (refine wpList_load_job rfl _ rfl w.heap.size rfl cs G0.out.x HL.out ?_;simp only [Act.put,List.setIfInBounds_toArray,List.set_cons_succ,List.set_cons_zero])
 refine (HM.out _).mono ?_
 rintro e w1 ⟨rfl,hb⟩
 have G1:=Lib.hid (G0.out.up HL.out hb)
 have b16:=G1.out.x.cell 16 H16.out
 clear hb G0 s0 s1 s2
 go_wp2_with fail
 refine (HP.out _).mono ?_
 rintro e w2 ⟨rfl,hb⟩
 have G2:=Lib.hid (G1.out.up HL.out hb)
 have O2:=Lib.hid (OwnQ.nil w2 (w.heap.size+1+1))
 clear hb G1 b16
 clear O2
 have BB:=Lib.hid G2.out.b
 cases u
 ·go_wp2
  go_ret
  exact ⟨none,0,rfl,.inl rfl,BB.out⟩
 ·go_wp2
  go_ret
  exact ⟨none,0,rfl,.inl rfl,BB.out⟩
set_option maxRecDepth 100000 in
set_option maxHeartbeats 2000000 in
theorem arBlocks_other (cs:List Value) (c r s st p X Y A0 A1 A2 B0 B1 B2 F0 F1 F2 F3 E0 E1 E2 E3:Int) (sa:Option Addr) (sn sc:Nat) (w:World) (hL:cs.length=33) (c16:cs[16]?=some (.int .i64 st)) (ha:(s==1)=false) (hb2:(s==2)=false) (hz:(p==1)=true)
  (KM:∀ w1,Calls Try.prog 25 #[.agg cs.toArray,.agg #[.int .i64 c,.int .i64 r,.slice sa sn sc]] w1 fun e w'=>e=.returned (.bool true)∧Below w1.heap.size w1 w')
  (KP:∀ w1,Calls Try.prog 38 #[.int .i64 st] w1 fun e w'=>e=.returned (.int .i64 p)∧Below w1.heap.size w1 w')
  (KA:∀ w1,Below w.heap.size w w1→Calls Try.prog 10 #[.agg cs.toArray,.agg #[.int .i64 c,.int .i64 r,.slice sa sn sc]] w1 fun e w'=>e=.returned (.agg #[.int .i64 A0,.int .i64 A1,.int .i64 A2])∧Below w1.heap.size w1 w')
  (KB:∀ w1,Below w.heap.size w w1→Calls Try.prog 11 #[.agg cs.toArray,.agg #[.int .i64 c,.int .i64 r,.slice sa sn sc]] w1 fun e w'=>e=.returned (.agg #[.int .i64 B0,.int .i64 B1,.int .i64 B2])∧Below w1.heap.size w1 w')
  (KW:∀ w1,Below w.heap.size w w1→Calls Try.prog 29 #[.agg cs.toArray,.agg #[.int .i64 c,.int .i64 r,.slice sa sn sc]] w1 fun e w'=>e=.returned (.agg #[.int .i64 0,.int .i64 0,.int .i64 X,.int .i64 Y])∧Below w1.heap.size w1 w')
  (K1:∀ w1,Calls Try.prog 27 #[.agg #[.int .i64 A0,.int .i64 A1,.int .i64 A2],.agg #[.int .i64 0,.int .i64 0,.int .i64 X,.int .i64 Y]] w1 fun e w'=>e=.returned (.agg #[.int .i64 F0,.int .i64 F1,.int .i64 F2,.int .i64 F3])∧Below w1.heap.size w1 w')
  (K2:∀ w1,Calls Try.prog 27 #[.agg #[.int .i64 B0,.int .i64 B1,.int .i64 B2],.agg #[.int .i64 0,.int .i64 0,.int .i64 X,.int .i64 Y]] w1 fun e w'=>e=.returned (.agg #[.int .i64 E0,.int .i64 E1,.int .i64 E2,.int .i64 E3])∧Below w1.heap.size w1 w') :
  Calls Try.prog 12 #[.agg cs.toArray,.agg #[.int .i64 c,.int .i64 r,.slice sa sn sc],.int .i64 s] w fun e w'=>∃ a cap,e=.returned (.slice a ([]:List (Int×Int×Int×Int)).length cap)∧RcsA w' a ([]:List (Int×Int×Int×Int))∧Below w.heap.size w w':=by
 have G0:=Lib.hid (JFr.new w hL c r (.slice sa sn sc))
 have s0:=G0.out.s.cell 0 rfl;have s1:=G0.out.s.cell 1 rfl;have s2:=G0.out.s.cell 2 rfl
 have HL:=Lib.hid hL;have HM:=Lib.hid KM;have HP:=Lib.hid KP;have HA:=Lib.hid KA;have HBk:=Lib.hid KB;have HW:=Lib.hid KW;have H1:=Lib.hid K1;have H2:=Lib.hid K2;have H16:=Lib.hid c16
 clear hL KM KP KA KB KW K1 K2 c16
 go_enter Try.func12,Try.ntmps12
 go_wp2_with (refine wpList_load_job rfl _ rfl w.heap.size rfl cs G0.out.x HL.out ?_;simp only [Act.put,List.setIfInBounds_toArray,List.set_cons_succ,List.set_cons_zero])
 refine (HM.out _).mono ?_
 rintro e w1 ⟨rfl,hb⟩
 have G1:=Lib.hid (G0.out.up HL.out hb)
 have b16:=G1.out.x.cell 16 H16.out
 clear hb G0 s0 s1 s2
 go_wp2_with fail
 refine (HP.out _).mono ?_
 rintro e w2 ⟨rfl,hb⟩
 have G2:=Lib.hid (G1.out.up HL.out hb)
 have O2:=Lib.hid (OwnQ.nil w2 (w.heap.size+1+1))
 clear hb G1 b16
 clear O2
 have BB:=Lib.hid G2.out.b
 go_wp2
 go_ret
 exact ⟨none,0,rfl,.inl rfl,BB.out⟩
theorem plates_one {s:Int} (h:1≤s∧s≤4):(platesS s==1)=decide (3≤s):=by
 unfold platesS styB
 rw [Bool.eq_iff_iff]
 simp only [Bool.and_eq_true,decide_eq_true_eq,beq_iff_eq]
 split
 ·split<;>omega
 ·omega
theorem arBlocks:ArBlocks:=fun cs j c r s sa sn sc w hj hn hc hr hs=>by
 have KM:=fun w1=>arMay_any cs j.n c r sa sn sc w1 hj.numC hj.length
 unfold blocksO
 cases hm:mayA j.n c r
 ·rw [hm] at KM
  rw [if_neg (fun h=>by cases h.1)]
  exact arBlocks_no cs c r s sa sn sc w hj.length KM
 ·rw [hm] at KM
  have KA:=fun w1 (hb:Below w.heap.size w w1)=>arAt cs j c r sa sn sc w1 (hj.up hb) hn hc hr
  have KB:=fun w1 (hb:Below w.heap.size w w1)=>arBack cs j c r sa sn sc w1 (hj.up hb) hn hc hr
  unfold atO2 at KA
  unfold backO2 at KB
  rw [hm,if_pos rfl] at KA KB
  have h11:1≤j.n 11∧j.n 11≤4:=(area_nums (may_parts hm).1).2.1
  have hp:=plates_one h11
  have KP:=fun w1=>styPlates_all (j.n 11) w1
  have KW:=fun w1 (hb:Below w.heap.size w w1)=>arOwn_any cs j c r sa sn sc w1 (hj.up hb) hc hr
  have K1:=fun w1=>arLie_any j.n (atA j.n c r) c r w1
  have K2:=fun w1=>arLie_any j.n (backA j.n c r) c r w1
  have c16:=hj.numC 11 (by decide)
  unfold blocksA
  by_cases h3:3≤j.n 11
  ·rw [decide_eq_true h3] at hp
   by_cases h1:s=1
   ·subst h1
    rw [if_pos ⟨rfl,.inl rfl⟩,if_pos h3]
    exact arBlocks_both cs c r 1 (j.n 11) (platesS (j.n 11)) _ _ _ _ _ _ _ _ _ _ _ _ _ _ _ _ sa sn sc w hj.length c16 rfl rfl hp KM KP KA KB KW K1 K2
   ·rw [if_neg (fun h=>by have:=h.2;omega)]
    by_cases h2:s=2
    ·subst h2
     exact arBlocks_none cs c r 2 (j.n 11) (platesS (j.n 11)) _ _ _ _ _ _ _ _ _ _ _ _ _ _ _ _ sa sn sc w hj.length c16 true rfl rfl hp KM KP KA KB KW K1 K2
    ·exact arBlocks_other cs c r s (j.n 11) (platesS (j.n 11)) _ _ _ _ _ _ _ _ _ _ _ _ _ _ _ _ sa sn sc w hj.length c16 (beq_eq_false_iff_ne.2 h1) (beq_eq_false_iff_ne.2 h2) hp KM KP KA KB KW K1 K2
  ·rw [decide_eq_false h3] at hp
   by_cases h1:s=1
   ·subst h1
    rw [if_pos ⟨rfl,.inl rfl⟩,if_neg h3,if_neg (by decide)]
    exact arBlocks_front cs c r 1 (j.n 11) (platesS (j.n 11)) _ _ _ _ _ _ _ _ _ _ _ _ _ _ _ _ sa sn sc w hj.length c16 rfl rfl hp KM KP KA KB KW K1 K2
   ·by_cases h2:s=2
    ·subst h2
     rw [if_pos ⟨rfl,.inr ⟨rfl,by omega⟩⟩,if_neg h3,if_pos rfl]
     exact arBlocks_back cs c r 2 (j.n 11) (platesS (j.n 11)) _ _ _ _ _ _ _ _ _ _ _ _ _ _ _ _ sa sn sc w hj.length c16 rfl rfl hp KM KP KA KB KW K1 K2
    ·rw [if_neg (fun h=>by have:=h.2;omega)]
     exact arBlocks_none cs c r s (j.n 11) (platesS (j.n 11)) _ _ _ _ _ _ _ _ _ _ _ _ _ _ _ _ sa sn sc w hj.length c16 false (beq_eq_false_iff_ne.2 h1) (beq_eq_false_iff_ne.2 h2) hp KM KP KA KB KW K1 K2
def BlksRel (N:Nat) (w:World) (i:Value) (wr:World):Prop:=∃ k:Nat,k≤N∧i=.int .i64 (k:Int)∧∃ u:Later w,wr=u.now
set_option maxRecDepth 100000 in
set_option maxHeartbeats 4000000 in
theorem arBlocks_core (cs:List Value) (c r s st:Int) (sa:Option Addr) (sn sc:Nat) (m p q t g:Bool) (N:Nat) (L:List (Int×Int×Int×Int)) (w:World) (hL:cs.length=33) (c16:cs[16]?=some (.int .i64 st)) (hp:decide (s<1)=p) (hq:decide (2<s)=q) (ht:(s==2)=t) (hg:decide (3≤st)=g)
  (hN:L.length=N) (hN2:N≤2) (hno:(!m || (p || (q || (t&&g))))=true→N=0)
  (KA:∀ w1,Below w.heap.size w w1→Calls Try.prog 6 #[] w1 fun e w'=>e=.returned (.bool true)∧Below w1.heap.size w1 w')
  (KM:∀ w1,Calls Try.prog 8 #[.agg cs.toArray,.agg #[.int .i64 c,.int .i64 r,.slice sa sn sc]] w1 fun e w'=>e=.returned (.bool m)∧Below w1.heap.size w1 w')
  (KL:∀ w1,Below w.heap.size w w1→Calls Try.prog 12 #[.agg cs.toArray,.agg #[.int .i64 c,.int .i64 r,.slice sa sn sc],.int .i64 s] w1 fun e w'=>∃ a cap,e=.returned (.slice a N cap)∧RcsA w' a L∧Below w1.heap.size w1 w')
  (KR:m=true→p=false→q=false→(t&&g)=false→∀ w1,Calls Try.prog 17 #[.agg cs.toArray,.agg #[.int .i64 c,.int .i64 r,.slice sa sn sc],.int .i64 s] w1 fun e w'=>∃ a cap,e=.returned (.slice a N cap)∧RcsA w' a L∧Below w1.heap.size w1 w') :
  Calls Try.prog 4 #[.agg cs.toArray,.agg #[.int .i64 c,.int .i64 r,.slice sa sn sc],.int .i64 s] w fun e w'=>e=.returned (.bool true)∧Below w.heap.size w w':=by
 have G0:=Lib.hid (JFr.new w hL c r (.slice sa sn sc))
 have HL:=Lib.hid hL;have HNO:=Lib.hid hno;have HN:=Lib.hid hN;have H16:=Lib.hid c16
 have HA:=Lib.hid KA;have HM:=Lib.hid KM;have HB:=Lib.hid KL;have HR:=Lib.hid KR
 clear hL hno hN c16 KA KM KL KR
 go_enter Try.func4,Try.ntmps4
 go_wp2_with fail
 refine (HA.out _ G0.out.b).mono ?_
 rintro e w1 ⟨rfl,hb⟩
 have G1:=Lib.hid (G0.out.up HL.out hb)
 have s0:=G1.out.s.cell 0 rfl;have s1:=G1.out.s.cell 1 rfl;have s2:=G1.out.s.cell 2 rfl
 clear hb G0
 go_wp2_with (refine wpList_load_job rfl _ rfl w.heap.size rfl cs G1.out.x HL.out ?_;simp only [Act.put,List.setIfInBounds_toArray,List.set_cons_succ,List.set_cons_zero])
 refine (HB.out _ G1.out.b).mono ?_
 rintro e w2 ⟨a1,k1,rfl,hR1,hb⟩
 have G2:=Lib.hid (G1.out.up HL.out hb)
 have HR1:=Lib.hid hR1
 clear s0 s1 s2 hb G1 hR1
 have s0:=G2.out.s.cell 0 rfl;have s1:=G2.out.s.cell 1 rfl;have s2:=G2.out.s.cell 2 rfl
 go_wp2_with (refine wpList_load_job rfl _ rfl w.heap.size rfl cs G2.out.x HL.out ?_;simp only [Act.put,List.setIfInBounds_toArray,List.set_cons_succ,List.set_cons_zero])
 refine (HM.out _).mono ?_
 rintro e w3 ⟨rfl,hb⟩
 have G3:=Lib.hid (G2.out.up HL.out hb)
 have HR3:=Lib.hid (HR1.out.up hb)
 clear s0 s1 s2 hb G2 HR1
 have b16:=G3.out.x.cell 16 H16.out
 cases m
 ·obtain rfl:=HNO.out (by simp)
  clear HR
  go_wp2
  go_ret
  exact ⟨rfl,G3.out.b⟩
 cases p
 case true =>
  obtain rfl:=HNO.out (by simp)
  clear HR
  go_wp2
  go_ret
  exact ⟨rfl,G3.out.b⟩
 cases q
 case true =>
  obtain rfl:=HNO.out (by simp)
  clear HR
  go_wp2
  go_ret
  exact ⟨rfl,G3.out.b⟩
 have fin:∀ (x:Bool),(t&&g)=x→True:=fun _ _=>trivial
 clear fin
 cases t
 case false =>
  have KR:=HR.out (by trivial) (by trivial) (by trivial) (by trivial)
  have HQ:=Lib.hid KR
  clear KR HR HNO
  clear b16
  have s0:=G3.out.s.cell 0 rfl;have s1:=G3.out.s.cell 1 rfl;have s2:=G3.out.s.cell 2 rfl;have b16:=G3.out.x.cell 16 H16.out
  go_wp2_with (refine wpList_load_job rfl _ rfl w.heap.size rfl cs G3.out.x HL.out ?_;simp only [Act.put,List.setIfInBounds_toArray,List.set_cons_succ,List.set_cons_zero])
  refine (HQ.out _).mono ?_
  rintro e w4 ⟨a2,k2,rfl,hR2,hb⟩
  have B4:=Lib.hid (up_trans G3.out.b hb)
  have HR4:=Lib.hid (HR3.out.up hb)
  have HS4:=Lib.hid hR2
  clear s0 s1 s2 b16 hb G3 HR3 hR2
  have nn:(((N:Nat):Int)==(N:Int))=true:=by simp
  have nn2:(((N:Nat):Int) != (N:Int))=false:=by simp
  go_wp2
  go_loopw [9] (fun i wr=>BlksRel N w4 i wr) (fun i _=>N-(intOf i).toNat)
  case atStart=>exact ⟨0,by omega,by go_num,⟨w4,Below.refl _ _⟩,rfl⟩
  case round =>
   obtain ⟨k,hk,rfl,u,rfl⟩:=hrel
   by_cases hlt:k<N
   ·obtain ⟨⟨p0,p1,p2,p3⟩,hp⟩:∃ p,L[k]?=some p:=⟨L[k]'(by rw [HN.out];exact hlt),List.getElem?_eq_getElem _⟩
    obtain ⟨b1,f1,rfl,h1⟩:=HR4.out.resolve_left (fun e=>by rw [e] at hp;cases hp)
    obtain ⟨b2,f2,rfl,h2⟩:=HS4.out.resolve_left (fun e=>by rw [e] at hp;cases hp)
    obtain ⟨x0,x1,x2,x3⟩:=h1 k _ hp
    obtain ⟨y0,y1,y2,y3⟩:=h2 k _ hp
    simp only at x0 x1 x2 x3 y0 y1 y2 y3
    have j0:=fun y:Later w4=>y.cell x0;have j1:=fun y:Later w4=>y.cell x1;have j2:=fun y:Later w4=>y.cell x2;have j3:=fun y:Later w4=>y.cell x3
    have i0:=fun y:Later w4=>y.cell y0;have i1:=fun y:Later w4=>y.cell y1;have i2:=fun y:Later w4=>y.cell y2;have i3:=fun y:Later w4=>y.cell y3
    have z0:(0:Int)≤(k:Int):=by omega
    have z1:(k:Int)<(N:Int):=by omega
    have q4:=fun w=>run_ne4 p0 p1 p2 p3 w
    clear h1 h2 x0 x1 x2 x3 y0 y1 y2 y3 hp
    go_wp2_with fail
    refine wp_region_later (by kernel_rfl) (by kernel_rfl) ?_
    repeat (go_big_quiet_step (fail))
    refine wpQuiet_nil ?_
    rintro _ ⟨u2,rfl⟩
    clear j0 j1 j2 j3 i0 i1 i2 i3
    go_wp2
    go_roundw
    case rel=>exact ⟨k+1,by omega,by go_num,u2,rfl⟩
    case measure=>simp [intOf];omega
   ·obtain rfl:k=N:=by omega
    have z1:¬ (k:Int)<(k:Int):=by omega
    have BB:=Lib.hid (up_trans B4.out u.up)
    go_wp2
    go_ret
    exact ⟨rfl,BB.out⟩
 cases g
 case true =>
  obtain rfl:=HNO.out (by simp)
  clear HR
  go_wp2
  go_ret
  exact ⟨rfl,G3.out.b⟩
 case false =>
  have KR:=HR.out (by trivial) (by trivial) (by trivial) (by trivial)
  have HQ:=Lib.hid KR
  clear KR HR HNO
  clear b16
  have s0:=G3.out.s.cell 0 rfl;have s1:=G3.out.s.cell 1 rfl;have s2:=G3.out.s.cell 2 rfl;have b16:=G3.out.x.cell 16 H16.out
  go_wp2_with (refine wpList_load_job rfl _ rfl w.heap.size rfl cs G3.out.x HL.out ?_;simp only [Act.put,List.setIfInBounds_toArray,List.set_cons_succ,List.set_cons_zero])
  refine (HQ.out _).mono ?_
  rintro e w4 ⟨a2,k2,rfl,hR2,hb⟩
  have B4:=Lib.hid (up_trans G3.out.b hb)
  have HR4:=Lib.hid (HR3.out.up hb)
  have HS4:=Lib.hid hR2
  clear s0 s1 s2 b16 hb G3 HR3 hR2
  have nn:(((N:Nat):Int)==(N:Int))=true:=by simp
  have nn2:(((N:Nat):Int) != (N:Int))=false:=by simp
  go_wp2
  go_loopw [9] (fun i wr=>BlksRel N w4 i wr) (fun i _=>N-(intOf i).toNat)
  case atStart=>exact ⟨0,by omega,by go_num,⟨w4,Below.refl _ _⟩,rfl⟩
  case round =>
   obtain ⟨k,hk,rfl,u,rfl⟩:=hrel
   by_cases hlt:k<N
   ·obtain ⟨⟨p0,p1,p2,p3⟩,hp⟩:∃ p,L[k]?=some p:=⟨L[k]'(by rw [HN.out];exact hlt),List.getElem?_eq_getElem _⟩
    obtain ⟨b1,f1,rfl,h1⟩:=HR4.out.resolve_left (fun e=>by rw [e] at hp;cases hp)
    obtain ⟨b2,f2,rfl,h2⟩:=HS4.out.resolve_left (fun e=>by rw [e] at hp;cases hp)
    obtain ⟨x0,x1,x2,x3⟩:=h1 k _ hp
    obtain ⟨y0,y1,y2,y3⟩:=h2 k _ hp
    simp only at x0 x1 x2 x3 y0 y1 y2 y3
    have j0:=fun y:Later w4=>y.cell x0;have j1:=fun y:Later w4=>y.cell x1;have j2:=fun y:Later w4=>y.cell x2;have j3:=fun y:Later w4=>y.cell x3
    have i0:=fun y:Later w4=>y.cell y0;have i1:=fun y:Later w4=>y.cell y1;have i2:=fun y:Later w4=>y.cell y2;have i3:=fun y:Later w4=>y.cell y3
    have z0:(0:Int)≤(k:Int):=by omega
    have z1:(k:Int)<(N:Int):=by omega
    have q4:=fun w=>run_ne4 p0 p1 p2 p3 w
    clear h1 h2 x0 x1 x2 x3 y0 y1 y2 y3 hp
    go_wp2_with fail
    refine wp_region_later (by kernel_rfl) (by kernel_rfl) ?_
    repeat (go_big_quiet_step (fail))
    refine wpQuiet_nil ?_
    rintro _ ⟨u2,rfl⟩
    clear j0 j1 j2 j3 i0 i1 i2 i3
    go_wp2
    go_roundw
    case rel=>exact ⟨k+1,by omega,by go_num,u2,rfl⟩
    case measure=>simp [intOf];omega
   ·obtain rfl:k=N:=by omega
    have z1:¬ (k:Int)<(k:Int):=by omega
    have BB:=Lib.hid (up_trans B4.out u.up)
    go_wp2
    go_ret
    exact ⟨rfl,BB.out⟩
theorem blocks_small (n:Nat→Int) (c r s:Int):(blocksO n c r s).length≤2:=by
 unfold blocksO blocksA
 split
 ·split<;>simp
 ·simp
theorem walkAreaBlocksK (KO:ArOuter) (KF:ArFits) (KA:ArAt) (KL:ArBlocks) (cs:List Value) (j:Jb) (c r:Int) (ad:Option Addr) (len cap:Nat) (s:Int) (w:World) (h:(JobA w cs j∧j.t.length≤maxLen∧∀ p∈j.ls,p.length≤maxLen)∧(∀ i,-9223372036854775808≤j.n i∧j.n i≤9223372036854775807)) (x0:(Lit.int .i64 c).wf=true) (x1:(Lit.int .i64 r).wf=true) (hs:(ad=none∧len=0∧cap=0)∨∃ x,ad=some x∧len≤cap∧cap≤maxLen∧∀ i,i<len→(∃ z,w.cell? (x.add (i*3+0))=some (.int .i64 z)∧(Lit.int .i64 z).wf=true)∧(∃ z,w.cell? (x.add (i*3+1))=some (.int .i64 z)∧(Lit.int .i64 z).wf=true)∧(∃ z,w.cell? (x.add (i*3+2))=some (.bool z))) (y0:(Lit.int .i64 s).wf=true) :
  Calls Try.prog 4 #[.agg cs.toArray,.agg #[.int .i64 c,.int .i64 r,.slice ad len cap],.int .i64 s] w fun e w'=>e=.returned (.bool true)∧Below w.heap.size w w':=by
 have hJ:=h.1.1
 have hN:=hJ.numC
 have hL:=hJ.length
 have ic:=wf_i64 x0;have ir:=wf_i64 x1
 refine arBlocks_core cs c r s (j.n 11) ad len cap (mayA j.n c r) _ _ _ _ (blocksO j.n c r s).length (blocksO j.n c r s) w hL (hN 11 (by decide)) rfl rfl rfl rfl rfl (blocks_small _ _ _ _) (fun e=>?_) (fun w1 hb=>arAlive_any KO KF KA w1) (fun w1=>refMayA_any cs j.n c r ad len cap w1 hN hL)
  (fun w1 hb=>KL cs j c r s ad len cap w1 (hJ.up hb) h.2 ic ir (wf_i64 y0)) (fun e1 e2 e3 e4 w1=>?_)
 ·have:blocksO j.n c r s=[]:=by
   unfold blocksO
   refine if_neg fun h=>?_
   rw [h.1] at e
   simp at e
   omega
  rw [this]
  rfl
 ·have:blocksO j.n c r s=blocksA j.n c r s:=by
   unfold blocksO
   refine if_pos ⟨e1,?_⟩
   simp at e2 e3 e4
   omega
  rw [this]
  exact refBlocks_any cs j.n c r s ad len cap w1 hN hL (may_first e1).1
set_option maxRecDepth 100000 in
set_option maxHeartbeats 4000000 in
theorem arRoom_core (cs:List Value) (c r R0 R1 R2 R3 P0 P1 P2 P3 Q0 Q1 Q2 Q3 M0 M1 M2 M3 A0 A1 A2 A3 x1 x2 x y1 y2 y:Int) (sa:Option Addr) (sn sc:Nat) (m ft two:Bool) (w:World) (hL:cs.length=33)
  (e1:IntKind.i64.wrap (R2-P2)=x1) (e2:IntKind.i64.wrap (P0-R0)=x2) (e3:IntKind.i64.wrap (x1-x2)=x) (e4:IntKind.i64.wrap (R3-P3)=y1) (e5:IntKind.i64.wrap (P1-R1)=y2) (e6:IntKind.i64.wrap (y1-y2)=y)
  (hx:m=true→ft=true→(decide (0≤x)=true∧decide (x≤1)=true)∧decide (0≤y)=true∧decide (y≤1)=true)
  (KA:∀ w1,Below w.heap.size w w1→Calls Try.prog 6 #[] w1 fun e w'=>e=.returned (.bool true)∧Below w1.heap.size w1 w')
  (KM:∀ w1,Calls Try.prog 8 #[.agg cs.toArray,.agg #[.int .i64 c,.int .i64 r,.slice sa sn sc]] w1 fun e w'=>e=.returned (.bool m)∧Below w1.heap.size w1 w')
  (KF:∀ w1,Below w.heap.size w w1→Calls Try.prog 9 #[.agg cs.toArray,.agg #[.int .i64 c,.int .i64 r,.slice sa sn sc]] w1 fun e w'=>e=.returned (.bool ft)∧Below w1.heap.size w1 w')
  (KL:m=true→ft=true→∀ w1,Below w.heap.size w w1→Calls Try.prog 12 #[.agg cs.toArray,.agg #[.int .i64 c,.int .i64 r,.slice sa sn sc],.int .i64 1] w1 fun e w'=>∃ a cap,e=.returned (.slice a (if two=true then [(P0,P1,P2,P3),(Q0,Q1,Q2,Q3)] else [(P0,P1,P2,P3)]).length cap)∧RcsA w' a (if two=true then [(P0,P1,P2,P3),(Q0,Q1,Q2,Q3)] else [(P0,P1,P2,P3)])∧Below w1.heap.size w1 w')
  (KR:∀ w1,Calls Try.prog 18 #[.agg cs.toArray] w1 fun e w'=>e=.returned (.agg #[.int .i64 R0,.int .i64 R1,.int .i64 R2,.int .i64 R3])∧Below w1.heap.size w1 w')
  (KW:m=true→ft=true→∀ w1,Calls Try.prog 19 #[.agg #[.int .i64 P0,.int .i64 P1,.int .i64 P2,.int .i64 P3],.agg #[.int .i64 R0,.int .i64 R1,.int .i64 R2,.int .i64 R3]] w1 fun e w'=>e=.returned (.bool true)∧Below w1.heap.size w1 w')
  (KT:∀ w1,Calls Try.prog 21 #[.agg #[.int .i64 P0,.int .i64 P1,.int .i64 P2,.int .i64 P3],.agg #[.int .i64 Q0,.int .i64 Q1,.int .i64 Q2,.int .i64 Q3]] w1 fun e w'=>e=.returned (.agg #[.int .i64 M0,.int .i64 M1,.int .i64 M2,.int .i64 M3])∧Below w1.heap.size w1 w')
  (KE:m=true→ft=true→two=true→∀ w1,Calls Try.prog 20 #[.agg #[.int .i64 M0,.int .i64 M1,.int .i64 M2,.int .i64 M3]] w1 fun e w'=>e=.returned (.bool true)∧Below w1.heap.size w1 w')
  (KX:∀ w1,Calls Try.prog 22 #[.agg cs.toArray] w1 fun e w'=>e=.returned (.agg #[.int .i64 A0,.int .i64 A1,.int .i64 A2,.int .i64 A3])∧Below w1.heap.size w1 w')
  (KV:m=true→ft=true→two=true→∀ w1,Calls Try.prog 19 #[.agg #[.int .i64 Q0,.int .i64 Q1,.int .i64 Q2,.int .i64 Q3],.agg #[.int .i64 A0,.int .i64 A1,.int .i64 A2,.int .i64 A3]] w1 fun e w'=>e=.returned (.bool true)∧Below w1.heap.size w1 w') :
  Calls Try.prog 5 #[.agg cs.toArray,.agg #[.int .i64 c,.int .i64 r,.slice sa sn sc]] w fun e w'=>e=.returned (.bool true)∧Below w.heap.size w w':=by
 have G0:=Lib.hid (JFr.new w hL c r (.slice sa sn sc))
 have HL:=Lib.hid hL;have HX:=Lib.hid hx
 have HA:=Lib.hid KA;have HM:=Lib.hid KM;have HF:=Lib.hid KF;have HB:=Lib.hid KL;have HR:=Lib.hid KR;have HW:=Lib.hid KW;have HT:=Lib.hid KT;have HE:=Lib.hid KE;have HAr:=Lib.hid KX;have HV:=Lib.hid KV
 clear hL hx KA KM KF KL KR KW KT KE KX KV
 go_enter Try.func5,Try.ntmps5
 go_wp2_with fail
 refine (HA.out _ G0.out.b).mono ?_
 rintro e w1 ⟨rfl,hb⟩
 have G1:=Lib.hid (G0.out.up HL.out hb)
 have s0:=G1.out.s.cell 0 rfl;have s1:=G1.out.s.cell 1 rfl;have s2:=G1.out.s.cell 2 rfl
 clear hb G0
 go_wp2_with (refine wpList_load_job rfl _ rfl w.heap.size rfl cs G1.out.x HL.out ?_;simp only [Act.put,List.setIfInBounds_toArray,List.set_cons_succ,List.set_cons_zero])
 refine (HM.out _).mono ?_
 rintro e w2 ⟨rfl,hb⟩
 have G2:=Lib.hid (G1.out.up HL.out hb)
 clear s0 s1 s2 hb G1
 cases m
 ·clear HX HB HW HE HV
  go_wp2
  go_ret
  exact ⟨rfl,G2.out.b⟩
 have s0:=G2.out.s.cell 0 rfl;have s1:=G2.out.s.cell 1 rfl;have s2:=G2.out.s.cell 2 rfl
 go_wp2_with (refine wpList_load_job_want _ rfl rfl w.heap.size rfl cs G2.out.x HL.out ?_;simp only [Act.put,List.setIfInBounds_toArray,List.set_cons_succ,List.set_cons_zero])
 refine (HF.out _ G2.out.b).mono ?_
 rintro e w3 ⟨rfl,hb⟩
 have G3:=Lib.hid (G2.out.up HL.out hb)
 clear s0 s1 s2 hb G2
 cases ft
 ·clear HX HB HW HE HV
  go_wp2
  go_ret
  exact ⟨rfl,G3.out.b⟩
 obtain ⟨⟨d1,d2⟩,d3,d4⟩:=HX.out (by trivial) (by trivial)
 have KL:=HB.out (by trivial) (by trivial)
 have KW:=HW.out (by trivial) (by trivial)
 have KE:=HE.out (by trivial) (by trivial)
 have KV:=HV.out (by trivial) (by trivial)
 have HB2:=Lib.hid KL;have HW2:=Lib.hid KW;have HE2:=Lib.hid KE;have HV2:=Lib.hid KV
 clear KL KW KE KV HB HW HE HV HX
 have s0:=G3.out.s.cell 0 rfl;have s1:=G3.out.s.cell 1 rfl;have s2:=G3.out.s.cell 2 rfl
 go_wp2_with (refine wpList_load_job rfl _ rfl w.heap.size rfl cs G3.out.x HL.out ?_;simp only [Act.put,List.setIfInBounds_toArray,List.set_cons_succ,List.set_cons_zero])
 refine (HB2.out _ G3.out.b).mono ?_
 rintro e w4 ⟨a4,c4,rfl,hR4,hb⟩
 have G4:=Lib.hid (G3.out.up HL.out hb)
 have HR4:=Lib.hid hR4
 clear s0 s1 s2 hb G3 hR4 HB2
 cases two
 ·have hR:=HR4.out
  clear HR4
  clear HE2 HV2
  obtain ⟨b4,f4,rfl,hc⟩:=hR.resolve_left (fun e=>by cases e)
  obtain ⟨u0,u1,u2,u3⟩:=hc 0 _ rfl
  simp only [Nat.zero_mul,Nat.one_mul,Nat.add_zero] at u0 u1 u2 u3
  clear hc hR
  go_wp2_with (refine wpList_load_job rfl _ rfl w.heap.size rfl cs G4.out.x HL.out ?_;simp only [Act.put,List.setIfInBounds_toArray,List.set_cons_succ,List.set_cons_zero])
  refine (HR.out _).mono ?_
  rintro e w5 ⟨rfl,hb⟩
  have U:=up_alloc (Below.refl _ w5) (.cells #[.int .i64 R0,.int .i64 R1,.int .i64 R2,.int .i64 R3] 40)
  have S5:=Bx.new w5 40 [.int .i64 R0,.int .i64 R1,.int .i64 R2,.int .i64 R3]
  have G6:=Lib.hid ((G4.out.up HL.out hb).up HL.out U)
  have u0:=bl_cell U (bl_cell hb u0);have u1:=bl_cell U (bl_cell hb u1);have u2:=bl_cell U (bl_cell hb u2);have u3:=bl_cell U (bl_cell hb u3)
  clear hb G4
  go_wp2_with fail
  obtain ⟨w6,hw6⟩:∃ w6,w5.alloc (.cells #[.int .i64 R0,.int .i64 R1,.int .i64 R2,.int .i64 R3] 40)=w6:=⟨_,rfl⟩
  rw [hw6] at S5 G6 u0 u1 u2 u3 ⊢
  clear hw6 U
  have j0:=fun y:Later w6=>y.cell u0;have j1:=fun y:Later w6=>y.cell u1;have j2:=fun y:Later w6=>y.cell u2;have j3:=fun y:Later w6=>y.cell u3
  have k0:=fun y:Later w6=>y.cell (S5.cell 0 rfl);have k1:=fun y:Later w6=>y.cell (S5.cell 1 rfl);have k2:=fun y:Later w6=>y.cell (S5.cell 2 rfl);have k3:=fun y:Later w6=>y.cell (S5.cell 3 rfl)
  have HRG:=Lib.hid (later_range G6.out.x (by rw [HL.out];decide))
  clear u0 u1 u2 u3 S5
  refine later_start (w:=w6) ?_
  intro y0'
  refine wp_region_later (by kernel_rfl) (by kernel_rfl) ?_
  repeat (first
   | (go_big_quiet_want;refine quiet_load_job _ rfl w.heap.size rfl cs HL.out HRG.out ?_;simp only [Act.put,List.setIfInBounds_toArray,List.set_cons_succ,List.set_cons_zero];go_big_quiet_on)
   | go_big_quiet_step (first
    | (go_at_call 19;with_reducible exact Later.call (HW2.out _))))
  refine wpQuiet_nil ?_
  rintro _ ⟨y1',rfl⟩
  go_wp2_with fail
  refine wp_region_later (by kernel_rfl) (by kernel_rfl) ?_
  repeat (first
   | (go_big_quiet_want;refine quiet_load_job _ rfl w.heap.size rfl cs HL.out HRG.out ?_;simp only [Act.put,List.setIfInBounds_toArray,List.set_cons_succ,List.set_cons_zero];go_big_quiet_on)
   | go_big_quiet_step (first
    | fail))
  refine wpQuiet_nil ?_
  rintro _ ⟨y2',rfl⟩
  go_wp2_with fail
  refine wp_region_later (by kernel_rfl) (by kernel_rfl) ?_
  repeat (first
   | (go_big_quiet_want;refine quiet_load_job _ rfl w.heap.size rfl cs HL.out HRG.out ?_;simp only [Act.put,List.setIfInBounds_toArray,List.set_cons_succ,List.set_cons_zero];go_big_quiet_on)
   | go_big_quiet_step (first
    | fail))
  refine wpQuiet_nil ?_
  rintro _ ⟨y3',rfl⟩
  have BB:=Lib.hid (up_trans G6.out.b y3'.up)
  clear j0 j1 j2 j3 k0 k1 k2 k3
  go_wp2
  go_ret
  exact ⟨rfl,BB.out⟩
 ·have hR:=HR4.out
  clear HR4
  have KE:=HE2.out (by trivial)
  have KV:=HV2.out (by trivial)
  have HE3:=Lib.hid KE;have HV3:=Lib.hid KV
  clear KE KV HE2 HV2
  obtain ⟨b4,f4,rfl,hc⟩:=hR.resolve_left (fun e=>by cases e)
  obtain ⟨u0,u1,u2,u3⟩:=hc 0 _ rfl
  obtain ⟨v0,v1,v2,v3⟩:=hc 1 _ rfl
  simp only [Nat.zero_mul,Nat.one_mul,Nat.add_zero] at u0 u1 u2 u3 v0 v1 v2 v3
  clear hc hR
  go_wp2_with (refine wpList_load_job rfl _ rfl w.heap.size rfl cs G4.out.x HL.out ?_;simp only [Act.put,List.setIfInBounds_toArray,List.set_cons_succ,List.set_cons_zero])
  refine (HR.out _).mono ?_
  rintro e w5 ⟨rfl,hb⟩
  have U:=up_alloc (Below.refl _ w5) (.cells #[.int .i64 R0,.int .i64 R1,.int .i64 R2,.int .i64 R3] 40)
  have S5:=Bx.new w5 40 [.int .i64 R0,.int .i64 R1,.int .i64 R2,.int .i64 R3]
  have G6:=Lib.hid ((G4.out.up HL.out hb).up HL.out U)
  have u0:=bl_cell U (bl_cell hb u0);have u1:=bl_cell U (bl_cell hb u1);have u2:=bl_cell U (bl_cell hb u2);have u3:=bl_cell U (bl_cell hb u3)
  have v0:=bl_cell U (bl_cell hb v0);have v1:=bl_cell U (bl_cell hb v1);have v2:=bl_cell U (bl_cell hb v2);have v3:=bl_cell U (bl_cell hb v3)
  clear hb G4
  go_wp2_with fail
  obtain ⟨w6,hw6⟩:∃ w6,w5.alloc (.cells #[.int .i64 R0,.int .i64 R1,.int .i64 R2,.int .i64 R3] 40)=w6:=⟨_,rfl⟩
  rw [hw6] at S5 G6 u0 u1 u2 u3 v0 v1 v2 v3 ⊢
  clear hw6 U
  have j0:=fun y:Later w6=>y.cell u0;have j1:=fun y:Later w6=>y.cell u1;have j2:=fun y:Later w6=>y.cell u2;have j3:=fun y:Later w6=>y.cell u3
  have k0:=fun y:Later w6=>y.cell (S5.cell 0 rfl);have k1:=fun y:Later w6=>y.cell (S5.cell 1 rfl);have k2:=fun y:Later w6=>y.cell (S5.cell 2 rfl);have k3:=fun y:Later w6=>y.cell (S5.cell 3 rfl)
  have i0:=fun y:Later w6=>y.cell v0;have i1:=fun y:Later w6=>y.cell v1;have i2:=fun y:Later w6=>y.cell v2;have i3:=fun y:Later w6=>y.cell v3
  have HRG:=Lib.hid (later_range G6.out.x (by rw [HL.out];decide))
  clear u0 u1 u2 u3 v0 v1 v2 v3 S5
  refine later_start (w:=w6) ?_
  intro y0'
  refine wp_region_later (by kernel_rfl) (by kernel_rfl) ?_
  repeat (first
   | (go_big_quiet_want;refine quiet_load_job _ rfl w.heap.size rfl cs HL.out HRG.out ?_;simp only [Act.put,List.setIfInBounds_toArray,List.set_cons_succ,List.set_cons_zero];go_big_quiet_on)
   | go_big_quiet_step (first
    | (go_at_call 19;with_reducible exact Later.call (HW2.out _))))
  refine wpQuiet_nil ?_
  rintro _ ⟨y1',rfl⟩
  go_wp2_with fail
  refine wp_region_later (by kernel_rfl) (by kernel_rfl) ?_
  repeat (first
   | (go_big_quiet_want;refine quiet_load_job _ rfl w.heap.size rfl cs HL.out HRG.out ?_;simp only [Act.put,List.setIfInBounds_toArray,List.set_cons_succ,List.set_cons_zero];go_big_quiet_on)
   | go_big_quiet_step (first
    | fail))
  refine wpQuiet_nil ?_
  rintro _ ⟨y2',rfl⟩
  go_wp2_with fail
  refine wp_region_later (by kernel_rfl) (by kernel_rfl) ?_
  repeat (first
   | (go_big_quiet_want;refine quiet_load_job _ rfl w.heap.size rfl cs HL.out HRG.out ?_;simp only [Act.put,List.setIfInBounds_toArray,List.set_cons_succ,List.set_cons_zero];go_big_quiet_on)
   | go_big_quiet_step (first
    | (go_at_call 21;with_reducible exact Later.call (HT.out _))
    | (go_at_call 20;with_reducible exact Later.call (HE3.out _))
    | (go_at_call 22;with_reducible exact Later.call (HAr.out _))
    | (go_at_call 19;with_reducible exact Later.call (HV3.out _))))
  refine wpQuiet_nil ?_
  rintro _ ⟨y3',rfl⟩
  have BB:=Lib.hid (up_trans G6.out.b y3'.up)
  clear j0 j1 j2 j3 k0 k1 k2 k3 i0 i1 i2 i3
  go_wp2
  go_ret
  exact ⟨rfl,BB.out⟩
theorem walkAreaRoomK (KO:ArOuter) (KF:ArFits) (KA:ArAt) (KL:ArBlocks) (cs:List Value) (j:Jb) (c r:Int) (ad:Option Addr) (len cap:Nat) (w:World) (h:(JobA w cs j∧j.t.length≤maxLen∧∀ p∈j.ls,p.length≤maxLen)∧(∀ i,-9223372036854775808≤j.n i∧j.n i≤9223372036854775807)) (x0:(Lit.int .i64 c).wf=true) (x1:(Lit.int .i64 r).wf=true) (hs:(ad=none∧len=0∧cap=0)∨∃ x,ad=some x∧len≤cap∧cap≤maxLen∧∀ i,i<len→(∃ z,w.cell? (x.add (i*3+0))=some (.int .i64 z)∧(Lit.int .i64 z).wf=true)∧(∃ z,w.cell? (x.add (i*3+1))=some (.int .i64 z)∧(Lit.int .i64 z).wf=true)∧(∃ z,w.cell? (x.add (i*3+2))=some (.bool z))) :
  Calls Try.prog 5 #[.agg cs.toArray,.agg #[.int .i64 c,.int .i64 r,.slice ad len cap]] w fun e w'=>e=.returned (.bool true)∧Below w.heap.size w w':=by
 have hJ:=h.1.1
 have hN:=hJ.numC
 have hL:=hJ.length
 have ic:=wf_i64 x0;have ir:=wf_i64 x1
 have i1:I64 1:=by unfold I64;omega
 have hlist:mayA j.n c r=true→blocksO j.n c r 1=if decide (3≤j.n 11)=true then [((blkOf j.n c r (atA j.n c r)).1,(blkOf j.n c r (atA j.n c r)).2.1,(blkOf j.n c r (atA j.n c r)).2.2.1,(blkOf j.n c r (atA j.n c r)).2.2.2),((blkOf j.n c r (backA j.n c r)).1,(blkOf j.n c r (backA j.n c r)).2.1,(blkOf j.n c r (backA j.n c r)).2.2.1,(blkOf j.n c r (backA j.n c r)).2.2.2)] else [((blkOf j.n c r (atA j.n c r)).1,(blkOf j.n c r (atA j.n c r)).2.1,(blkOf j.n c r (atA j.n c r)).2.2.1,(blkOf j.n c r (atA j.n c r)).2.2.2)]:=fun hm=>by
  unfold blocksO blocksA
  rw [if_pos ⟨hm,.inl rfl⟩]
  simp only [decide_eq_true_eq]
  split<;>rfl
 have hfm:fitsO j.n c r=true→fitsA j.n c r=true:=fun e=>by
  unfold fitsO at e
  rw [Bool.and_eq_true] at e
  exact e.2
 refine arRoom_core cs c r (regionS j.n).1 (regionS j.n).2.1 (regionS j.n).2.2.1 (regionS j.n).2.2.2 (blkOf j.n c r (atA j.n c r)).1 (blkOf j.n c r (atA j.n c r)).2.1 (blkOf j.n c r (atA j.n c r)).2.2.1 (blkOf j.n c r (atA j.n c r)).2.2.2 (blkOf j.n c r (backA j.n c r)).1 (blkOf j.n c r (backA j.n c r)).2.1 (blkOf j.n c r (backA j.n c r)).2.2.1 (blkOf j.n c r (backA j.n c r)).2.2.2 _ _ _ _
  (areaS j.n).1 (areaS j.n).2.1 (areaS j.n).2.2.1 (areaS j.n).2.2.2 _ _ _ _ _ _ ad len cap (mayA j.n c r) (fitsO j.n c r) (decide (3≤j.n 11)) w hL rfl rfl rfl rfl rfl rfl (fun e1 e2=>?_)
  (fun w1 hb=>arAlive_any KO KF KA w1) (fun w1=>refMayA_any cs j.n c r ad len cap w1 hN hL) (fun w1 hb=>KF cs j c r ad len cap w1 (hJ.up hb) h.2 ic ir) (fun e1 e2 w1 hb=>?_) (fun w1=>refRegion_any cs j.n w1 hN hL) (fun e1 e2 w1=>?_) (fun w1=>refMeet_any _ _ _ _ _ _ _ _ w1) (fun e1 e2 e3 w1=>?_) (fun w1=>refArea_any cs j.n w1 hN hL) (fun e1 e2 e3 w1=>?_)
 ·obtain ⟨X,Y,w',v,e,hw,hv,r0,r2,r1,r3,dx,dy,-⟩:=blk_front e1 (hfm e2)
  obtain ⟨hf,-,-⟩:=may_parts e1
  obtain ⟨g1,g2,g3,g4,-⟩:=region_small hf
  obtain ⟨-,h11,h12,h13,h14,-⟩:=area_nums hf
  rw [e]
  simp only
  have z1:IntKind.i64.wrap ((regionS j.n).2.2.1-(X+w'))=(regionS j.n).2.2.1-(X+w'):=tiny64 (by omega)
  have z2:IntKind.i64.wrap (X-(regionS j.n).1)=X-(regionS j.n).1:=tiny64 (by omega)
  have z3:IntKind.i64.wrap ((regionS j.n).2.2.1-(X+w')-(X-(regionS j.n).1))=(regionS j.n).2.2.1-(X+w')-(X-(regionS j.n).1):=tiny64 (by omega)
  have z4:IntKind.i64.wrap ((regionS j.n).2.2.2-(Y+v))=(regionS j.n).2.2.2-(Y+v):=tiny64 (by omega)
  have z5:IntKind.i64.wrap (Y-(regionS j.n).2.1)=Y-(regionS j.n).2.1:=tiny64 (by omega)
  have z6:IntKind.i64.wrap ((regionS j.n).2.2.2-(Y+v)-(Y-(regionS j.n).2.1))=(regionS j.n).2.2.2-(Y+v)-(Y-(regionS j.n).2.1):=tiny64 (by omega)
  rw [z1,z2,z3,z4,z5,z6]
  simp only [decide_eq_true_eq]
  exact ⟨dx,dy⟩
 ·have:=KL cs j c r 1 ad len cap w1 (hJ.up hb) h.2 ic ir i1
  rw [hlist e1] at this
  exact this
 ·obtain ⟨X,Y,w',v,e,hw,hv,r0,r2,r1,r3,dx,dy,-⟩:=blk_front e1 (hfm e2)
  have Kw:=refWithin_any (blkOf j.n c r (atA j.n c r)).1 (blkOf j.n c r (atA j.n c r)).2.1 (blkOf j.n c r (atA j.n c r)).2.2.1 (blkOf j.n c r (atA j.n c r)).2.2.2 (regionS j.n).1 (regionS j.n).2.1 (regionS j.n).2.2.1 (regionS j.n).2.2.2 w1
  rw [show withinR (blkOf j.n c r (atA j.n c r)).1 (blkOf j.n c r (atA j.n c r)).2.1 (blkOf j.n c r (atA j.n c r)).2.2.1 (blkOf j.n c r (atA j.n c r)).2.2.2 (regionS j.n).1 (regionS j.n).2.1 (regionS j.n).2.2.1 (regionS j.n).2.2.2=true by
   rw [e]
   unfold withinR
   simp only [Bool.or_eq_true,Bool.and_eq_true,decide_eq_true_eq]
   omega] at Kw
  exact Kw
 ·obtain ⟨t1,-⟩:=blk_two e1 (hfm e2) (by simpa using e3)
  have Km:=refEmpty_b 0 0 0 0 w1
  unfold meetR
  rw [oz4_yes t1]
  exact Km
 ·obtain ⟨-,t2⟩:=blk_two e1 (hfm e2) (by simpa using e3)
  have Kw:=refWithin_any (blkOf j.n c r (backA j.n c r)).1 (blkOf j.n c r (backA j.n c r)).2.1 (blkOf j.n c r (backA j.n c r)).2.2.1 (blkOf j.n c r (backA j.n c r)).2.2.2 (areaS j.n).1 (areaS j.n).2.1 (areaS j.n).2.2.1 (areaS j.n).2.2.2 w1
  rw [t2] at Kw
  exact Kw
end Go.Proofs.Ytabinmabggnhbaa
