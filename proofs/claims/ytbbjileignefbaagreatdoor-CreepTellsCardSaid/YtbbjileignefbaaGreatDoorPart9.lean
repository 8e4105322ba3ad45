/- Part 9 of the texts that the proofs of this seat share: RefStep, RefFold, OpenCells, StepArg, UnfoldLaw, SpineMath, SplitMath, OrderMath. -/
import Derived.Deep.RegionHeld3
import Derived.Deep.AppendLies
import Derived.Deep.DeepCutAuto
import Derived.Maps.AppendAt
import Derived.OwnWalk
import Derived.Test.YtbbjileignefbaaGreatDoorPart8
import Derived.Test.YtbbjileignefbaaGreatDoorPart1
import Derived.Test.YtbbjileignefbaaGreatDoorPart4
import Derived.Deep.Slices
import Derived.Deep.Fields
import Derived.OpenShut
import Derived.Lib.SmallJoins
import Derived.Test.YtbbjileignefbaaGreatDoorPart3
set_option linter.unusedVariables false
namespace Go.Proofs.YtbbjileignefbaaGreatDoor
open Go.RowKit Go.Lib
theorem over_snoc (d n c r:Int) (l:List Rp) (p:Rp):overM d n c r (l++[p])=if movedM d n c r p=true then overM d n c r l++[turnedM d n c r p] else overM d n c r l:=by
  unfold overM
  rw [List.filter_append,List.map_append]
  cases h:movedM d n c r p<;>simp [h]
theorem rest_snoc (d n c r:Int) (l:List Rp) (p:Rp):restM d n c r (l++[p])=if movedM d n c r p=true then restM d n c r l else restM d n c r l++[p]:=by
  unfold restM
  rw [List.filter_append]
  cases h:movedM d n c r p<;>simp [h]
theorem over_le (d n c r:Int) (l:List Rp):(overM d n c r l).length≤l.length:=by unfold overM;rw [List.length_map];exact List.length_filter_le _ _
theorem rest_le (d n c r:Int) (l:List Rp):(restM d n c r l).length≤l.length:=List.length_filter_le _ _
theorem app_side {W0 W w6:World} {tmp:Obj} {B:Nat} {rv ov v':Value} {R O R':List Rp} (hr:OwnR W B rv R) (ho:OwnR W B ov O) (hne:∀ b,rv.ownBlock=some b→ov.ownBlock≠some b) (hown:OwnR w6 B v' R') (hg:(W.alloc tmp).grownBy w6 rv.ownBlock) (hat:v'.ownBlock=rv.ownBlock∨v'.ownBlock=some (W.alloc tmp).heap.size) (hb:Below B W0 W) (hB:B≤W0.heap.size) :
    OwnR w6 B ov O∧(∀ b,v'.ownBlock=some b→ov.ownBlock≠some b)∧Below B W0 w6:=by
  have ho2:=ho.up (up_alloc (Below.refl _ W) tmp)
  refine ⟨World.ownsRow.kept ho2 hg ?_,fun b h1 h2=>?_,?_⟩
  · rcases h:ov.ownBlock with _ | b
    · exact .inl rfl
    · exact .inr fun e=>hne b e.symm h
  · rcases hat with e | e
    · exact hne b (by rw [←e];exact h1) h2
    · rw [h1] at e
      have e':b=W.heap.size+1:=by simpa using e
      have:=(World.ownsRow.lt ho b h2).2
      omega
  · exact Below.grown (hb.alloc (by have:=hb.size;omega) tmp) hg (by have:=hb.size;simp;omega) (fun k hk=>(World.ownsRow.lt hr k hk).1)
theorem part_length (d n c r:Int) (l:List Rp):(overM d n c r l).length+(restM d n c r l).length=l.length:=by
  unfold overM restM
  rw [List.length_map]
  induction l with
  | nil=>rfl
  | cons p l ih=>cases h:movedM d n c r p<;>simp [h]<;>omega
theorem RpsAt.add {w:World} {b:Nat} {l:List Rp} (h:RpsAt w b l):∀ j u,(rps l)[j]?=some u→w.cell? ((⟨b,0,none⟩:Addr).add j)=some u:=fun j u hu=>by
  rw [show (⟨b,0,none⟩:Addr).add j=⟨b,j,none⟩ by unfold Addr.add;split<;>simp_all]
  exact h j u hu
def PartRel (w1:World) (l:List Rp) (d n c r:Int) (ov rv i:Value) (wr:World):Prop :=
  ∃ k:Nat,k≤l.length∧i=.int .i64 (k:Int)∧OwnR wr w1.heap.size ov (overM d n c r (l.take k))∧OwnR wr w1.heap.size rv (restM d n c r (l.take k))∧(∀ b,ov.ownBlock=some b→rv.ownBlock≠some b)∧Below w1.heap.size w1 wr
def BackRel (w0:World) (O P:List Rp) (s i:Value) (wx:World):Prop :=
  ∃ t:Nat,t≤O.length∧i=.int .i64 ((t:Int)-1)∧OwnR wx w0.heap.size s (P++(O.drop t).reverse)∧Below w0.heap.size w0 wx
theorem List.set_same {α:Type} {l:List α} {j:Nat} {p:α} (h:l[j]?=some p):l.set j p=l:=by
  obtain ⟨hj,rfl⟩:=List.getElem?_eq_some_iff.1 h
  exact List.set_getElem_self hj
def shl (d n:Int) (J:List Rp) (j:Nat):List Rp:=(J.take j).map (shiftM d n)++J.drop j
theorem shl_at {d n:Int} {J:List Rp} {j:Nat} {p:Rp} (h:J[j]?=some p):(shl d n J j)[j]?=some p:=by
  obtain ⟨hj,rfl⟩:=List.getElem?_eq_some_iff.1 h
  unfold shl
  rw [List.getElem?_append_right (by simp;omega)]
  simp [List.length_take,Nat.min_eq_left (Nat.le_of_lt hj)]
theorem shl_succ {d n:Int} {J:List Rp} {j:Nat} {p:Rp} (h:J[j]?=some p):(shl d n J j).set j (shiftM d n p)=shl d n J (j+1):=by
  obtain ⟨hj,rfl⟩:=List.getElem?_eq_some_iff.1 h
  unfold shl
  have e1:((J.take j).map (shiftM d n)).length=j:=by simp;omega
  rw [List.set_append_right _ _ (by omega),e1,Nat.sub_self,List.drop_eq_getElem_cons hj,List.set_cons_zero,List.take_add_one,List.getElem?_eq_getElem hj]
  simp only [Option.toList_some,List.map_append,List.map_cons,List.map_nil,List.append_assoc,List.singleton_append]
theorem shl_all (d n:Int) (J:List Rp):shl d n J J.length=J.map (shiftM d n):=by simp [shl]
def ShiftRel (w0:World) (g cap:Nat) (d n:Int) (J:List Rp) (i:Value) (wx:World):Prop :=
  ∃ j:Nat,j≤J.length∧i=.int .i64 (j:Int)∧Rw wx w0.heap.size g cap (shl d n J j)∧Below w0.heap.size w0 wx
theorem join_bounds {d n c r:Int} {u:Bool} {l:List Rp} (hin:InR c r l) (hn:1≤n∧n≤64) (hc:1≤c∧c≤64) (hr:1≤r∧r≤64) (p:Rp) (hp:p∈joinU u (restM d n c r l) (overM d n c r l).reverse):(-256≤p.col∧p.col≤256)∧-256≤p.row∧p.row≤256:=by
  have hq:p∈restM d n c r l∨p∈overM d n c r l:=by
    unfold joinU at hp
    cases u
    · simp at hp;exact hp.symm
    · simpa using hp
  rcases hq with hq | hq
  · have:=hin p (List.mem_filter.1 hq).1
    omega
  · obtain ⟨q,h0,rfl⟩:=List.mem_map.1 hq
    have:=hin q (List.mem_filter.1 h0).1
    unfold turnedM
    split<;>(try split)<;>(try split)<;>simp only<;>omega
set_option maxRecDepth 100000 in
set_option maxHeartbeats 2000000 in
theorem refStep_any (l:List Rp) (g cap:Nat) (d n:Int) (u:Bool) (c r:Int) (w:World) (hA:RpsAt w g l) (hl0:0<l.length) (hl:l.length≤64) (hd:1≤d∧d≤4) (hn:1≤n∧n≤64) (hc:1≤c∧c≤64) (hr:1≤r∧r≤64) (hin:InR c r l) (ho:0<(overM d n c r l).length) (hre:0<(restM d n c r l).length) :
    Calls Tryz.prog 80 #[.slice (some ⟨g,0,none⟩) l.length cap,.agg #[.int .i64 d,.int .i64 n,.bool u],.int .i64 c,.int .i64 r] w fun e w'=>∃ g' cap',e=.returned (.slice (some ⟨g',0,none⟩) l.length cap')∧Rw w' w.heap.size g' cap' (stepR d n u c r l)∧Below w.heap.size w w':=by
  obtain ⟨i0,hi,hz0,hz1,hz2⟩:=info_parts Tryz.infoRp
  have KM:=fun p w=>refMoved_any p d n u c r w hd hn hc hr
  have KT:=fun (p:Rp) (hp:p∈l) w=>refTurned_any p d n u c r w hd hn hc hr (by have:=hin p hp;omega)
  simp only [Rp.val] at KM KT
  have HM:=Lib.hid KM;have HT:=Lib.hid KT;have HA:=Lib.hid hA;have HO:=Lib.hid ho;have HR:=Lib.hid hre
  obtain ⟨m,hm⟩:∃ m,l.length=m:=⟨_,rfl⟩
  rw [hm] at hl hl0 ⊢
  have HL:=Lib.hid hm;have HIn:=Lib.hid hin
  clear KM KT hA ho hre hin hm
  have A1:=Bx.new w 58 [.int .i64 d,.int .i64 n,.bool u]
  have B1:=Lib.hid (up_alloc (Below.refl _ w) (.cells #[.int .i64 d,.int .i64 n,.bool u] 58))
  go_enter Tryz.func80,Tryz.ntmps80
  go_wp2
  obtain ⟨w1,hw1⟩:∃ w1,w.alloc (.cells #[.int .i64 d,.int .i64 n,.bool u] 58)=w1:=⟨_,rfl⟩
  have hs1:w1.heap.size=w.heap.size+1:=by rw [←hw1];simp
  rw [hw1] at A1 B1 ⊢
  clear hw1
  go_loopw [9,10,11] (fun ov rv i wr=>PartRel w1 l d n c r ov rv i wr) (fun _ _ i _=>m-(intOf i).toNat)
  case atStart=>exact ⟨0,by omega,by go_num,OwnR.nil _ _,OwnR.nil _ _,fun b h=>by simp [Value.ownBlock] at h,Below.refl _ _⟩
  case round =>
    obtain ⟨k,hk,rfl,hov,hrv,hne,hb⟩:=hrel
    rw [HL.out] at hk
    by_cases hlt:k<m
    · obtain ⟨p,hp⟩:∃ p,l[k]?=some p:=⟨l[k]'(by rw [HL.out];exact hlt),List.getElem?_eq_getElem _⟩
      have hmem:p∈l:=List.mem_of_getElem? hp
      have KS:∀ w':World,Below w1.heap.size w1 w'→w'.cell? ⟨g,k*5,none⟩=some (.int .i64 p.n)∧w'.cell? ⟨g,k*5+1,none⟩=some (.int .i64 p.col)∧w'.cell? ⟨g,k*5+2,none⟩=some (.int .i64 p.row)∧w'.cell? ⟨g,k*5+3,none⟩=some (.bool p.fx)∧w'.cell? ⟨g,k*5+4,none⟩=some (.bool p.fy)∧w'.cell? ⟨w.heap.size,0,none⟩=some (.int .i64 d)∧w'.cell? ⟨w.heap.size,1,none⟩=some (.int .i64 n)∧w'.cell? ⟨w.heap.size,2,none⟩=some (.bool u):=fun w' h=>by
        obtain ⟨p0,p1,p2,p3,p4⟩:=(HA.out.up (up_trans B1.out h)).cells hp
        have X:=A1.up h
        exact ⟨p0,p1,p2,p3,p4,X.cell 0 rfl,X.cell 1 rfl,X.cell 2 rfl⟩
      have HKS:=Lib.hid KS
      obtain ⟨p0,p1,p2,p3,p4,x0,x1,x2⟩:=KS _ hb
      have z0:(0:Int)≤(k:Int):=by omega
      have z1:(k:Int)<(m:Int):=by omega
      have htk:l.take (k+1)=l.take k++[p]:=by rw [List.take_add_one,hp];rfl
      have ho1:=over_snoc d n c r (l.take k) p
      have hr1:=rest_snoc d n c r (l.take k) p
      rw [←htk] at ho1 hr1
      obtain ⟨O,hO⟩:∃ O,overM d n c r (l.take k)=O:=⟨_,rfl⟩
      obtain ⟨R,hR⟩:∃ R,restM d n c r (l.take k)=R:=⟨_,rfl⟩
      have hOl:O.length≤64:=by rw [←hO];have:=over_le d n c r (l.take k);rw [List.length_take] at this;omega
      have hRl:R.length≤64:=by rw [←hR];have:=rest_le d n c r (l.take k);rw [List.length_take] at this;omega
      rw [hO] at hov ho1
      rw [hR] at hrv hr1
      have KM:=fun w=>HM.out p w
      have KT:=fun w=>HT.out p hmem w
      generalize movedM d n c r p=mv at *
      obtain ⟨q,hq⟩:∃ q,turnedM d n c r p=q:=⟨_,rfl⟩
      rw [hq] at KT ho1
      have HM1:=Lib.hid KM;have HT1:=Lib.hid KT;have HOV:=Lib.hid hov;have HRV:=Lib.hid hrv;have HNE:=Lib.hid hne;have HB:=Lib.hid hb;have HO1:=Lib.hid ho1;have HR1:=Lib.hid hr1
      clear KM KT hov hrv hne hb ho1 hr1 hO hR htk hq hmem hp KS
      go_wp2_with fail
      refine later_start (w:=wr) ?_
      intro v
      have j0:=fun v:Later wr=>v.cell p0
      have j1:=fun v:Later wr=>v.cell p1
      have j2:=fun v:Later wr=>v.cell p2
      have j3:=fun v:Later wr=>v.cell p3
      have j4:=fun v:Later wr=>v.cell p4
      have i0':=fun v:Later wr=>v.cell x0
      have i1':=fun v:Later wr=>v.cell x1
      have i2':=fun v:Later wr=>v.cell x2
      refine wp_region_later (by kernel_rfl) (by kernel_rfl) ?_
      repeat (go_big_quiet_step ((go_at_call 92;with_reducible exact Later.call (HM1.out _))))
      refine wpQuiet_nil ?_
      rintro _ ⟨v2,rfl⟩
      have hb5:=v2.up
      replace p0:=v2.cell p0;replace p1:=v2.cell p1;replace p2:=v2.cell p2;replace p3:=v2.cell p3;replace p4:=v2.cell p4
      replace x0:=v2.cell x0;replace x1:=v2.cell x1;replace x2:=v2.cell x2
      clear j0 j1 j2 j3 j4 i0' i1' i2'
      generalize v2.now=w5 at *
      have HB5:=Lib.hid hb5
      clear hb5 v v2
      have HOV5:=Lib.hid (HOV.out.up HB5.out);have HRV5:=Lib.hid (HRV.out.up HB5.out)
      have hbb:=up_trans HB.out HB5.out
      have hs5:=hbb.size
      have HBB:=Lib.hid hbb
      clear hbb
      cases mv
      · simp only [Bool.false_eq_true,if_false] at HO1 HR1
        go_wp2_with (at_builtin;refine wpList_append_own_at _ rfl _ _ 94 rfl w1.heap.size 108 i0 _ 5 32 Tryz.underlying94 hi hz0 hz1 hz2 rfl (by omega) _ R.length (rps R) rfl (HRV5.out.up (up_alloc (Below.refl _ _) _)) ⟨w5.heap.size,0,none⟩ 1 1 p.cells rfl rfl (World.news_of_block (cs:=#[.int .i64 p.n,.int .i64 p.col,.int .i64 p.row,.bool p.fx,.bool p.fy]) (t:=108) (fr:=(0,0)) (heap_alloc_new w5 _)) (by simp [Value.oneCell',Rp.cells]) (by unfold maxLen;omega) (by omega) (by simp;omega) ?_;intro v' w6 hown hgrow _ hat)
        obtain ⟨e1,e2,e3⟩:=app_side HRV5.out HOV5.out (fun b h1 h2=>HNE.out b h2 h1) (show OwnR w6 w1.heap.size v' (R++[p]) by unfold OwnR;rw [List.length_append,rps_append];exact hown) hgrow hat HBB.out (Nat.le_refl _)
        refine ⟨⟨k+1,by rw [HL.out];omega,by go_num,?_,?_,fun b h1 h2=>e2 b h2 h1,e3⟩,by simp [intOf];omega⟩
        · rw [HO1.out];exact e1
        · rw [HR1.out];unfold OwnR;rw [List.length_append,rps_append];exact hown
      · simp only [if_true] at HO1 HR1
        clear p0 p1 p2 p3 p4 x0 x1 x2
        have hlen:O.length+1≤maxLen:=by unfold maxLen;omega
        have hbytes:(O.length+1)*32≤140737488355328:=by omega
        go_wp2_with fail
        go_region_held3 (fun w'=>w'.cell? ⟨g,k*5,none⟩=some (.int .i64 p.n)∧w'.cell? ⟨g,k*5+1,none⟩=some (.int .i64 p.col)∧w'.cell? ⟨g,k*5+2,none⟩=some (.int .i64 p.row)∧w'.cell? ⟨g,k*5+3,none⟩=some (.bool p.fx)∧w'.cell? ⟨g,k*5+4,none⟩=some (.bool p.fy)∧w'.cell? ⟨w.heap.size,0,none⟩=some (.int .i64 d)∧w'.cell? ⟨w.heap.size,1,none⟩=some (.int .i64 n)∧w'.cell? ⟨w.heap.size,2,none⟩=some (.bool u))
          ((refine HKS.out _ ?_;first | exact hbw6 | exact up_drew HBB.out | exact hb7 | exact up_alloc hb7 _))
          (first
            | (go_at_call 93;(refine Calls.mono (HT1.out _) ?_);rintro e w7 ⟨rfl,hb7⟩;have hb57:=up_trans (up_drew (Below.refl _ w5)) hb7;replace hb7:=up_trans (up_drew HBB.out) hb7)
            | (refine step_append_lies _ (by rfl) _ _ _ (by rfl) w1.heap.size 108 i0 _ 5 32 Tryz.underlying94 hi hz0 hz1 hz2 rfl (by omega) _ O.length (rps O) (by rfl) (HOV5.out.up (up_alloc hb57 _)) ⟨w7.heap.size,0,none⟩ 1 1 q.cells (by rfl) (by rfl) (World.news_of_block (cs:=#[.int .i64 q.n,.int .i64 q.col,.int .i64 q.row,.bool q.fx,.bool q.fy]) (t:=108) (fr:=(0,0)) (heap_alloc_new w7 _)) (by simp [Value.oneCell',Rp.cells]) (by omega) hlen hbytes (by have:=hb57.size;simp;omega) _ rfl ?_
               intro g' cap' w6 hown hgrow hat hglt
               have hbw6:Below w1.heap.size w1 w6:=Below.grown (up_alloc hb7 _) hgrow (by have:=hb57.size;simp;omega) (fun k hk=>(World.ownsRow.lt HOV5.out k hk).1)))
        rename_i hHeld
        clear hHeld
        have HOW:=Lib.hid (show OwnR w6 w1.heap.size (.slice (some ⟨g',0,none⟩) (O.length+1) cap') (O++[q]) by unfold OwnR;rw [List.length_append,rps_append];exact hown)
        obtain ⟨e1,e2,e3⟩:=app_side (HOV5.out.up hb57) (HRV5.out.up hb57) HNE.out HOW.out hgrow (by rcases hat with e | e;exact .inl e.symm;exact .inr (by rw [e];rfl)) hb7 (Nat.le_refl _)
        have E1:=Lib.hid e1;have E2:=Lib.hid e2;have E3:=Lib.hid e3
        clear hown hgrow hat hglt hbw6 hb7 hb57 e1 e2 e3
        go_wp2
        refine ⟨⟨k+1,by rw [HL.out];omega,by go_num,?_,?_,E2.out,E3.out⟩,by simp [intOf];omega⟩
        · rw [HO1.out];exact HOW.out
        · rw [HR1.out];exact E1.out
    · have hk2:k=m:=by omega
      subst hk2
      obtain ⟨V,hV⟩:∃ V,V=wr:=⟨_,rfl⟩
      subst hV
      rw [List.take_of_length_le (by rw [HL.out];exact Nat.le_refl _)] at hov hrv
      obtain ⟨g1,cap1,rfl,hO⟩:=OwnR.form hov HO.out
      obtain ⟨g2,cap2,rfl,hR⟩:=OwnR.form hrv HR.out
      obtain ⟨O,hOe⟩:∃ O,overM d n c r l=O:=⟨_,rfl⟩
      obtain ⟨R,hRe⟩:∃ R,restM d n c r l=R:=⟨_,rfl⟩
      have hsum:O.length+R.length=k:=by rw [←hOe,←hRe,←HL.out];exact part_length d n c r l
      rw [hOe] at hO
      rw [hRe] at hR
      rw [hOe,hRe]
      have KS:∀ w':World,Below V.heap.size V w'→w'.cell? ⟨w.heap.size,0,none⟩=some (.int .i64 d)∧w'.cell? ⟨w.heap.size,1,none⟩=some (.int .i64 n)∧w'.cell? ⟨w.heap.size,2,none⟩=some (.bool u):=fun w' h =>
        have X:=A1.up (up_trans hb h)
        ⟨X.cell 0 rfl,X.cell 1 rfl,X.cell 2 rfl⟩
      obtain ⟨x0,x1,x2⟩:=KS V (Below.refl _ _)
      have HKS:=Lib.hid KS;have HOr:=Lib.hid hO;have HRr:=Lib.hid hR;have HB:=Lib.hid hb;have HOe:=Lib.hid hOe;have HRe:=Lib.hid hRe
      rw [hOe] at HO
      rw [hRe] at HR
      have hO0:=HO.out;have hR0:=HR.out
      clear KS hov hrv hne hO hR hb hOe hRe hlt HM HT HA
      obtain ⟨B2,hB2⟩:∃ B,V.heap.size=B:=⟨_,rfl⟩
      go_upto_if 48 with fail
      go_cut [12] (fun s wx=>OwnR wx V.heap.size s (if u=true then R else [])∧Below V.heap.size V wx)
      case first =>
        cases u
        · go_wp2
          go_meet
          exact ⟨OwnR.nil _ _,Below.refl _ _⟩
        · go_wp2_with (at_builtin;refine wpList_append_own_at _ rfl _ _ 94 rfl V.heap.size 108 i0 _ 5 32 Tryz.underlying94 hi hz0 hz1 hz2 rfl (by omega) _ 0 [] rfl (OwnR.nil _ _) ⟨g2,0,none⟩ R.length cap2 (rps R) rfl (rps_length R) (RpsAt.add HRr.out.at) rps_one (by unfold maxLen;omega) (by omega) (Nat.le_refl _) ?_;intro v' w6 hown hgrow _ hat)
          go_meet
          refine ⟨?_,(Below.refl _ _).grown hgrow (Nat.le_refl _) (fun k hk=>by have hk':(Value.slice none 0 0).ownBlock=some k:=hk;simp [Value.ownBlock] at hk')⟩
          simpa [OwnR] using hown
      case rest =>
        obtain ⟨hrow,hbc⟩:=hcut
        obtain ⟨P,hP⟩:∃ P,(if u=true then R else [])=P:=⟨_,rfl⟩
        rw [hP] at hrow
        have hPl:P.length≤R.length:=by rw [←hP];cases u<;>simp
        obtain ⟨y0,y1,y2⟩:=HKS.out wc hbc
        have HW:=Lib.hid hrow;have HBc:=Lib.hid hbc;have HP:=Lib.hid hP
        have w1':wrap64 ((O.length:Int)-1)=(O.length:Int)-1:=IntWalk.wrap64_in _ (by omega)
        clear hrow hbc hP x0 x1 x2
        go_wp2
        go_loopw [12,13] (fun s i wx=>BackRel V O P s i wx) (fun _ i _=>(intOf i+1).toNat)
        case atStart=>exact ⟨O.length,Nat.le_refl _,by go_num,by rw [List.drop_length];simpa using HW.out,HBc.out⟩
        case round =>
          obtain ⟨t,ht,rfl,hrow,hbx⟩:=hrel
          cases t with
          | succ t =>
            have e1:((t+1:Nat):Int)-1=(t:Int):=by omega
            rw [e1]
            obtain ⟨p,hp⟩:∃ p,O[t]?=some p:=⟨O[t]'(by omega),List.getElem?_eq_getElem _⟩
            obtain ⟨p0,p1,p2,p3,p4⟩:=(HOr.out.at.up hbx).cells hp
            have hdr:(O.drop t).reverse=(O.drop (t+1)).reverse++[p]:=by
              rw [List.drop_eq_getElem_cons (by omega),List.reverse_cons]
              rw [List.getElem?_eq_getElem (by omega)] at hp
              rw [Option.some.inj hp]
            have HD:=Lib.hid hdr;have HX:=Lib.hid hrow;have HBx:=Lib.hid hbx
            obtain ⟨D,hD⟩:∃ D,P++(O.drop (t+1)).reverse=D:=⟨_,rfl⟩
            have hDl:D.length≤64:=by rw [←hD];simp;omega
            have HDe:=Lib.hid hD
            rw [hD] at HX
            have z0:(0:Int)≤(t:Int):=by omega
            have z1:(t:Int)<(O.length:Int):=by omega
            have hsx:=hbx.size
            have wt:wrap64 ((t:Int)-1)=(t:Int)-1:=IntWalk.wrap64_in _ (by omega)
            clear hdr hrow hbx hD hp e1
            go_wp2_with (at_builtin;refine wpList_append_own_at _ rfl _ _ 94 rfl V.heap.size 108 i0 _ 5 32 Tryz.underlying94 hi hz0 hz1 hz2 rfl (by omega) _ D.length (rps D) rfl (HX.out.up (up_alloc (Below.refl _ _) _)) ⟨wr.heap.size,0,none⟩ 1 1 p.cells rfl rfl (World.news_of_block (cs:=#[.int .i64 p.n,.int .i64 p.col,.int .i64 p.row,.bool p.fx,.bool p.fy]) (t:=108) (fr:=(0,0)) (heap_alloc_new wr _)) (by simp [Value.oneCell',Rp.cells]) (by unfold maxLen;omega) (by omega) (by simp;omega) ?_;intro v' w6 hown hgrow _ hat)
            have hlt6:=fun k hk=>(World.ownsRow.lt HX.out k hk).1
            have hb6:=Below.grown (HBx.out.alloc hsx _) hgrow (by simp;omega) hlt6
            refine ⟨⟨t,by omega,rfl,?_,hb6⟩,by simp [intOf]⟩
            rw [HD.out,←List.append_assoc,HDe.out]
            unfold OwnR
            rw [List.length_append,rps_append]
            exact hown
          | zero =>
            have e1:((0:Nat):Int)-1=-1:=rfl
            rw [e1]
            rw [List.drop_zero] at hrow
            obtain ⟨D,hD⟩:∃ D,P++O.reverse=D:=⟨_,rfl⟩
            rw [hD] at hrow
            have hDl:D.length≤64:=by rw [←hD];simp;omega
            have hJ:(if u=true then D else D++R)=joinU u R O.reverse:=by rw [←hD,←HP.out];unfold joinU;cases u<;>simp
            have HX:=Lib.hid hrow;have HBx:=Lib.hid hbx;have HJ:=Lib.hid hJ
            obtain ⟨y0,y1,y2⟩:=HKS.out wr hbx
            have HR3:=Lib.hid (HRr.out.up hbx)
            have hsx:=hbx.size
            clear hrow hbx hJ hD e1
            go_upto_if 68 with fail
            go_cut [12] (fun s wx=>OwnR wx V.heap.size s (joinU u R O.reverse)∧Below V.heap.size V wx)
            case first =>
              cases u
              · go_wp2_with (at_builtin;refine wpList_append_own_at _ rfl _ _ 94 rfl V.heap.size 108 i0 _ 5 32 Tryz.underlying94 hi hz0 hz1 hz2 rfl (by omega) _ D.length (rps D) rfl HX.out ⟨g2,0,none⟩ R.length cap2 (rps R) rfl (rps_length R) (RpsAt.add HR3.out.at) rps_one (by unfold maxLen;omega) (by omega) hsx ?_;intro v' w6 hown hgrow _ hat)
                go_meet
                have hlt6:=fun k hk=>(World.ownsRow.lt HX.out k hk).1
                refine ⟨?_,HBx.out.grown hgrow hsx hlt6⟩
                rw [←HJ.out]
                unfold OwnR
                simp only [Bool.false_eq_true,if_false]
                rw [List.length_append,rps_append]
                exact hown
              · go_wp2
                go_meet
                refine ⟨?_,HBx.out⟩
                rw [←HJ.out]
                exact HX.out
            case rest =>
              obtain ⟨hrow,hbc⟩:=hcut
              have hJl:(joinU u R O.reverse).length=k:=by unfold joinU;cases u<;>simp<;>omega
              have hJb:∀ p∈joinU u R O.reverse,(-256≤p.col∧p.col≤256)∧-256≤p.row∧p.row≤256:=fun p hp=>join_bounds (u:=u) HIn.out hn hc hr p (by rw [HRe.out,HOe.out];exact hp)
              obtain ⟨J,hJe⟩:∃ J,joinU u R O.reverse=J:=⟨_,rfl⟩
              rw [hJe] at hrow hJl hJb
              have HJe:=Lib.hid hJe
              obtain ⟨g3,cap3,rfl,hRw⟩:=hrow.form (by rw [hJl];exact hl0)
              rw [hJl]
              have HRw:=Lib.hid hRw;have HBc:=Lib.hid hbc;have HJl:=Lib.hid hJl;have HJb:=Lib.hid hJb
              clear hrow hbc hJl hRw hJb hJe y0 y1 y2
              go_wp2
              go_loopw [14] (fun i wx=>ShiftRel V g3 cap3 d n J i wx) (fun i _=>k-(intOf i).toNat)
              case atStart=>exact ⟨0,by omega,by go_num,HRw.out,HBc.out⟩
              case round =>
                obtain ⟨j,hj,rfl,hRw,hbx⟩:=hrel
                rw [HJl.out] at hj
                by_cases hlt:j<k
                · obtain ⟨p,hp⟩:∃ p,J[j]?=some p:=⟨J[j]'(by rw [HJl.out];exact hlt),List.getElem?_eq_getElem _⟩
                  have hpb:=HJb.out p (List.mem_of_getElem? hp)
                  obtain ⟨p0,p1,p2,p3,p4⟩:=hRw.at.cells (shl_at (d:=d) (n:=n) hp)
                  have f1:=hRw.free (j*5+1);have f2:=hRw.free (j*5+2)
                  obtain ⟨y0,y1,y2⟩:=HKS.out wr hbx
                  have z0:(0:Int)≤(j:Int):=by omega
                  have z1:(j:Int)<(k:Int):=by omega
                  have wc1:wrap64 (p.col-n)=p.col-n:=IntWalk.wrap64_in _ (by omega)
                  have wr1:wrap64 (p.row-n)=p.row-n:=IntWalk.wrap64_in _ (by omega)
                  have HSu:=Lib.hid (shl_succ (d:=d) (n:=n) hp);have HSa:=Lib.hid (shl_at (d:=d) (n:=n) hp)
                  have HRj:=Lib.hid hRw;have HBj:=Lib.hid hbx
                  have hsx:=hbx.size
                  have hg3:=hRw.lt
                  clear hRw hbx hp hpb
                  have hd':=hd
                  obtain rfl | rfl | rfl | rfl:d=1∨d=2∨d=3∨d=4:=by omega
                  · go_wp2_with fail
                    refine later_start (w:=wr) ?_
                    intro v
                    have j0:=fun v:Later wr=>v.cell y1
                    have j1:=fun v:Later wr=>v.cell p1
                    refine wp_region_later_tail 12 (by kernel_rfl) (by kernel_rfl) ?_
                    simp only [List.take_succ_cons,List.take_zero,List.drop_succ_cons,List.drop_zero]
                    repeat (go_big_quiet_step (fail))
                    refine wpQuiet_nil ?_
                    rintro _ ⟨v2,rfl⟩
                    have hR5:=HRj.out.up v2.up
                    have p1':=v2.cell p1
                    have f1':=hR5.free (j*5+1)
                    have y0':=v2.cell y0
                    have B5:=Lib.hid (up_trans HBj.out v2.up)
                    clear j0 j1
                    generalize v2.now=w5 at *
                    have HR5:=Lib.hid hR5
                    have hVs:=HB.out.size
                    have y0'':(w5.setCell ⟨g3,j*5+1,none⟩ (.int .i64 (p.col-n))).cell? ⟨w.heap.size,0,none⟩=some (.int .i64 1):=(World.cell?_setCell_far _ _ _ _ (by simp only;omega)).trans y0'
                    clear v v2 hR5
                    go_wp2
                    refine ⟨⟨j+1,by rw [HJl.out];omega,by go_num,?_,HR5.out.set_but _ _ B5.out HR5.out.lt.1⟩,by simp [intOf];omega⟩
                    rw [←HSu.out]
                    exact HR5.out.set HSa.out 1 (by omega) _ _ rfl
                  · go_wp2
                    refine ⟨⟨j+1,by rw [HJl.out];omega,by go_num,?_,HBj.out⟩,by simp [intOf];omega⟩
                    rw [←HSu.out,show shiftM 2 n p=p from rfl,List.set_same HSa.out]
                    exact HRj.out
                  · go_wp2_with fail
                    refine later_start (w:=wr) ?_
                    intro v
                    have j0:=fun v:Later wr=>v.cell y1
                    have j1:=fun v:Later wr=>v.cell p2
                    refine wp_region_later_tail 12 (by kernel_rfl) (by kernel_rfl) ?_
                    simp only [List.take_succ_cons,List.take_zero,List.drop_succ_cons,List.drop_zero]
                    repeat (go_big_quiet_step (fail))
                    refine wpQuiet_nil ?_
                    rintro _ ⟨v2,rfl⟩
                    have hR5:=HRj.out.up v2.up
                    have p1':=v2.cell p2
                    have f1':=hR5.free (j*5+2)
                    have y0':=v2.cell y0
                    have B5:=Lib.hid (up_trans HBj.out v2.up)
                    clear j0 j1
                    generalize v2.now=w5 at *
                    have HR5:=Lib.hid hR5
                    have hVs:=HB.out.size
                    have y0'':(w5.setCell ⟨g3,j*5+2,none⟩ (.int .i64 (p.row-n))).cell? ⟨w.heap.size,0,none⟩=some (.int .i64 3):=(World.cell?_setCell_far _ _ _ _ (by simp only;omega)).trans y0'
                    clear v v2 hR5
                    go_wp2
                    refine ⟨⟨j+1,by rw [HJl.out];omega,by go_num,?_,HR5.out.set_but _ _ B5.out HR5.out.lt.1⟩,by simp [intOf];omega⟩
                    rw [←HSu.out]
                    exact HR5.out.set HSa.out 2 (by omega) _ _ rfl
                  · go_wp2
                    refine ⟨⟨j+1,by rw [HJl.out];omega,by go_num,?_,HBj.out⟩,by simp [intOf];omega⟩
                    rw [←HSu.out,show shiftM 4 n p=p from rfl,List.set_same HSa.out]
                    exact HRj.out
                · have hj2:j=k:=by omega
                  subst hj2
                  have e:=shl_all d n J
                  rw [HJl.out] at e
                  rw [e] at hRw
                  have HRj:=Lib.hid hRw;have HBj:=Lib.hid hbx
                  clear hRw hbx e
                  go_wp2
                  go_ret
                  have hs:=HBj.out.size
                  refine ⟨g3,cap3,rfl,?_,up_trans (up_trans B1.out HB.out) HBj.out⟩
                  unfold stepR
                  rw [HRe.out,HOe.out,HJe.out]
                  exact HRj.out.base _ (by have:=HRj.out.lt;have:=(up_trans B1.out HB.out).size;omega)
def FullR (c r:Int) (l:List Rp):Prop:=∀ x y,(0≤x∧x<c)→(0≤y∧y<r)→∃ p∈l,p.col=x∧p.row=y
theorem full_init {c r:Int} (hc:1≤c):FullR c r (initL c r):=by
  intro x y hx hy
  have hi:=idx_lt hx hy
  refine ⟨_,List.mem_map.2 ⟨(y*c+x).toNat,List.mem_range.2 (by omega),rfl⟩,?_⟩
  obtain ⟨t1,t2⟩:=td y x c hy.1 hx.1 hx.2
  simp only [show (((y*c+x).toNat:Nat):Int)=y*c+x by omega]
  exact ⟨t2,t1⟩
theorem full_step {d n c r:Int} {u:Bool} (h:Can d n c r) {l:List Rp} (hl:FullR c r l):FullR (newC d n c) (newR d n r) (stepR d n u c r l):=by
  intro x y hx hy
  have n1:=h.n1
  have hb:(0≤backX d n x∧backX d n x<c)∧0≤backY d n y∧backY d n y<r:=by
    rcases h.cases with ⟨rfl,e⟩ | ⟨rfl,e⟩ | ⟨rfl,e⟩ | ⟨rfl,e⟩<;>simp [newC,newR,backX,backY] at hx hy ⊢<;>omega
  obtain ⟨q,hq,e1,e2⟩:=hl _ _ hb.1 hb.2
  have hm:movedM d n c r q=false:=by
    rcases h.cases with ⟨rfl,e⟩ | ⟨rfl,e⟩ | ⟨rfl,e⟩ | ⟨rfl,e⟩<;>simp [newC,newR,backX,backY] at hx hy e1 e2<;>simp [movedM]<;>omega
  have hr:q∈restM d n c r l:=List.mem_filter.2 ⟨hq,by simp [hm]⟩
  refine ⟨shiftM d n q,List.mem_map.2 ⟨q,?_,rfl⟩,?_⟩
  · unfold joinU
    cases u<;>simp [hr]
  · rcases h.cases with ⟨rfl,e⟩ | ⟨rfl,e⟩ | ⟨rfl,e⟩ | ⟨rfl,e⟩<;>simp [backX,backY] at e1 e2<;>simp [shiftM]<;>omega
theorem full_over {d n c r:Int} (h:Can d n c r) {l:List Rp} (hl:FullR c r l):0<(overM d n c r l).length:=by
  have n1:=h.n1;have c1:=h.c1;have r1:=h.r1
  obtain ⟨q,hq,e1,e2⟩:∃ q∈l,q.col=(if d=2 then c-1 else 0)∧q.row=(if d=4 then r-1 else 0):=hl _ _ (by split<;>omega) (by split<;>omega)
  have hm:movedM d n c r q=true:=by
    rcases h.cases with ⟨rfl,e⟩ | ⟨rfl,e⟩ | ⟨rfl,e⟩ | ⟨rfl,e⟩<;>simp at e1 e2<;>simp [movedM]<;>omega
  exact List.length_pos_of_mem (List.mem_map.2 ⟨q,List.mem_filter.2 ⟨hq,hm⟩,rfl⟩)
theorem full_rest {d n c r:Int} (h:Can d n c r) {l:List Rp} (hl:FullR c r l):0<(restM d n c r l).length:=by
  have n1:=h.n1;have c1:=h.c1;have r1:=h.r1
  obtain ⟨q,hq,e1,e2⟩:∃ q∈l,q.col=(if d=1 then c-1 else 0)∧q.row=(if d=3 then r-1 else 0):=hl _ _ (by split<;>omega) (by split<;>omega)
  have hm:movedM d n c r q=false:=by
    rcases h.cases with ⟨rfl,e⟩ | ⟨rfl,e⟩ | ⟨rfl,e⟩ | ⟨rfl,e⟩<;>simp at e1 e2<;>simp [movedM]<;>omega
  exact List.length_pos_of_mem (List.mem_filter.2 ⟨hq,by simp [hm]⟩)
theorem init_snoc (c r:Int) (k:Nat) (hk:k<(c*r).toNat):(initL c r).take (k+1)=(initL c r).take k++[⟨(k:Int),(k:Int).tmod c,(k:Int).tdiv c,false,false⟩]:=by
  have hl:k<(initL c r).length:=by rw [init_length];exact hk
  rw [List.take_add_one,List.getElem?_eq_getElem hl]
  simp [initL]
theorem refFold_no (s:Sc) (a:Option Addr) (cap:Nat) (w:World) (hc:s.c≤9223372036854775807) (hr:s.r≤9223372036854775807) (hl:s.l.length≤1000000) (hI:InL w a s.l) (hn:rightM s=false) :
    Calls Tryz.prog 63 #[.agg #[.int .i64 s.c,.int .i64 s.r,.slice a s.l.length cap]] w fun e w'=>e=.returned (.slice none 0 0)∧Below w.heap.size w w':=by
  have KF:=fun w1 (h:Below w.heap.size w w1)=>refFine_any s a cap w1 hc hr hl (hI.up h)
  rw [hn] at KF
  have HF:=Lib.hid KF
  have HB0:=Lib.hid (up_alloc (Below.refl _ w) (.cells #[.int .i64 s.c,.int .i64 s.r,.slice a s.l.length cap] 26))
  generalize s.l.length=n at *
  clear KF hI hn
  go_enter Tryz.func63,Tryz.ntmps63
  go_wp2_with fail
  refine (HF.out _ HB0.out).mono ?_
  rintro e w1 ⟨rfl,hb⟩
  have B1:=Lib.hid (up_trans HB0.out hb)
  clear hb
  go_wp2
  go_ret
  exact ⟨rfl,B1.out⟩
def InitRel (w0:World) (c r:Int) (m:Nat) (v i:Value) (wr:World):Prop :=
  ∃ k:Nat,k≤m∧i=.int .i64 (k:Int)∧OwnR wr w0.heap.size v ((initL c r).take k)∧Below w0.heap.size w0 wr
def RFoldRel (w0:World) (n m:Nat) (ls:List Sp) (F:List Rp) (v cv rv i:Value) (wr:World):Prop :=
  ∃ (k g cap:Nat) (c r:Int) (l:List Rp),k≤n∧v=.slice (some ⟨g,0,none⟩) m cap∧cv=.int .i64 c∧rv=.int .i64 r∧i=.int .i64 (k:Int)∧w0.heap.size≤g∧Hid (RpsAt wr g l)∧Hid (InR c r l)∧Hid (FullR c r l)∧Hid (l.length=m)∧Hid (allM c r (ls.drop k)=(1,1,true))∧Hid (goL c r l (ls.drop k)=F)∧((1≤c∧c≤64)∧1≤r∧r≤64)∧Below w0.heap.size w0 wr
set_option maxRecDepth 100000 in
set_option maxHeartbeats 2000000 in
theorem refFold_yes (s:Sc) (a:Option Addr) (cap:Nat) (w:World) (hI:InL w a s.l) (hr:rightM s=true) :
    Calls Tryz.prog 63 #[.agg #[.int .i64 s.c,.int .i64 s.r,.slice a s.l.length cap]] w fun e w'=>∃ g cap',e=.returned (.slice (some ⟨g,0,none⟩) (foldL s).length cap')∧RpsAt w' g (foldL s)∧w.heap.size≤g∧Below w.heap.size w w':=by
  obtain ⟨i0,hi,hz0,hz1,hz2⟩:=info_parts Tryz.infoRp
  obtain ⟨hc,hrr,hm,hl6,hall⟩:=right_bounds hr
  have hp:1≤s.c*s.r:=Int.le_trans (by omega) (Int.mul_le_mul hc.1 hrr.1 (by omega) (by omega):1*1≤s.c*s.r)
  have KF:=fun w1 (h:Below w.heap.size w w1)=>refFine_any s a cap w1 (by omega) (by omega) (by omega) (hI.up h)
  rw [hr] at KF
  have hgo:goL s.c s.r (initL s.c s.r) s.l=foldL s:=rfl
  have hin0:=init_in hc.1 hrr.1
  have hfu0:=full_init (r:=s.r) hc.1
  have hlF:(foldL s).length=(s.c*s.r).toNat:=by have:=pcL_length s;unfold pcL at this;rwa [List.length_map] at this
  obtain ⟨F,hF⟩:∃ F,foldL s=F:=⟨_,rfl⟩
  rw [hF] at hgo hlF ⊢
  obtain ⟨m,hmm⟩:∃ m,(s.c*s.r).toNat=m:=⟨_,rfl⟩
  rw [hmm] at hlF
  rw [hlF]
  have hw:wrap64 (s.c*s.r)=(m:Int):=by rw [IntWalk.wrap64_in _ (by omega)];omega
  have hil:(initL s.c s.r).length=m:=by rw [init_length,hmm]
  have hm64:m≤64:=by omega
  have hm1:1≤m:=by omega
  have hsn:∀ k,k<m→(initL s.c s.r).take (k+1)=(initL s.c s.r).take k++[⟨(k:Int),(k:Int).tmod s.c,(k:Int).tdiv s.c,false,false⟩]:=fun k hk=>init_snoc s.c s.r k (by omega)
  have hsp:∀ k,k<m→∃ x y:Int,(k:Int).tmod s.c=x∧(k:Int).tdiv s.c=y∧0≤x∧x<s.c∧0≤y∧y<s.r:=fun k hk=>by
    obtain ⟨x,y,e1,e2,b0,b1,b2,b3,b4⟩:=split_place k s.c s.r hc.1 (by omega)
    exact ⟨x,y,e1,e2,b0,b1,b2,b3⟩
  have HI:=Lib.hid hI;have HF:=Lib.hid KF;have HGo:=Lib.hid hgo;have HN0:=Lib.hid hin0;have HFu:=Lib.hid hfu0;have HAll:=Lib.hid hall;have HIl:=Lib.hid hil;have HSn:=Lib.hid hsn;have HSp:=Lib.hid hsp
  obtain ⟨c,r,ls⟩:=s
  simp only at HI HF HGo HN0 HFu HAll HIl HSn HSp hw hl6 hc hrr ⊢
  clear hI KF hgo hin0 hfu0 hall hil hsn hsp hF hr hm hp hmm hlF
  obtain ⟨n,hn⟩:∃ n,ls.length=n:=⟨_,rfl⟩
  rw [hn] at hl6 HF ⊢
  have HN:=Lib.hid hn
  clear hn
  have HB0:=Lib.hid (up_alloc (Below.refl _ w) (.cells #[.int .i64 c,.int .i64 r,.slice a n cap] 26))
  go_enter Tryz.func63,Tryz.ntmps63
  go_wp2_with fail
  refine (HF.out _ HB0.out).mono ?_
  rintro e w1 ⟨rfl,hb⟩
  have A1:=(Bx.new w 26 [.int .i64 c,.int .i64 r,.slice a n cap]).up hb
  have B1:=Lib.hid (up_trans HB0.out hb)
  have hsz:=hb.size
  simp only [World.size_alloc] at hsz
  clear hb HF
  go_wp2
  go_loopw [3,4] (fun v i wr=>InitRel w1 c r m v i wr) (fun _ i _=>m-(intOf i).toNat)
  case atStart=>exact ⟨0,by omega,by go_num,OwnR.nil _ _,Below.refl _ _⟩
  case round =>
    obtain ⟨k,hk,rfl,hv,hb⟩:=hrel
    by_cases hlt:k<m
    · obtain ⟨x,y,e1,e2,g1,g2,g3,g4⟩:=HSp.out k hlt
      have hsn:=HSn.out k hlt
      rw [e1,e2] at hsn
      obtain ⟨L,hL⟩:∃ L,(initL c r).take k=L:=⟨_,rfl⟩
      rw [hL] at hv hsn
      have hLl:L.length≤64:=by rw [←hL,List.length_take];omega
      have KS:∀ w':World,Below w1.heap.size w1 w'→w'.cell? ⟨w.heap.size,0,none⟩=some (.int .i64 c)∧w'.cell? ⟨w.heap.size,1,none⟩=some (.int .i64 r):=fun w' h =>
        have X:=A1.up h
        ⟨X.cell 0 rfl,X.cell 1 rfl⟩
      obtain ⟨x0,x1⟩:=KS wr hb
      have HKS:=Lib.hid KS;have HV:=Lib.hid (hv.up (up_drew (Below.refl _ _)));have HB:=Lib.hid hb;have HSn1:=Lib.hid hsn
      have hsx:=hb.size
      have z1:(k:Int)<(m:Int):=by omega
      have c0:c≠0:=by omega
      have hw2:IntKind.i64.wrap y=y:=IntWalk.i64_in _ (by omega)
      clear KS hv hb hsn hL
      go_wp2_with fail
      have hlen:L.length+1≤maxLen:=by unfold maxLen;omega
      have hbytes:(L.length+1)*32≤140737488355328:=by omega
      clear x0 x1
      go_region_held3 (fun w'=>w'.cell? ⟨w.heap.size,0,none⟩=some (.int .i64 c)∧w'.cell? ⟨w.heap.size,1,none⟩=some (.int .i64 r))
        ((refine HKS.out _ ?_;first | exact hbw6 | exact up_drew HB.out | exact up_alloc (up_drew HB.out) _))
        (first
          | (refine step_append_lies _ (by rfl) _ _ _ (by rfl) w1.heap.size 108 i0 _ 5 32 Tryz.underlying94 hi hz0 hz1 hz2 rfl (by omega) _ L.length (rps L) (by rfl) (HV.out.up (up_alloc (Below.refl _ _) _)) ⟨wr.heap.size,0,none⟩ 1 1 (Rp.cells ⟨(k:Int),x,y,false,false⟩) (by rfl) (by rfl) (World.news_of_block (cs:=#[.int .i64 (k:Int),.int .i64 x,.int .i64 y,.bool false,.bool false]) (t:=108) (fr:=(0,0)) (heap_alloc_new wr.drew _)) (by simp [Value.oneCell',Rp.cells]) (by omega) hlen hbytes (by simp;omega) _ rfl ?_
             intro g' cap' w6 hown hgrow hat hglt
             have hbw6:Below w1.heap.size w1 w6:=Below.grown (up_alloc (up_drew HB.out) _) hgrow (by simp;omega) (fun k hk=>(World.ownsRow.lt HV.out k hk).1)))
      rename_i hHeld
      clear hHeld
      have HOW:=Lib.hid hown;have HB6:=Lib.hid hbw6
      clear hown hgrow hat hglt hbw6
      go_wp2
      refine ⟨⟨k+1,by omega,by go_num,?_,HB6.out⟩,by simp [intOf];omega⟩
      rw [HSn1.out]
      unfold OwnR
      rw [List.length_append,rps_append]
      exact HOW.out
    · have hk2:k=m:=by omega
      rw [hk2,List.take_of_length_le (by rw [HIl.out];exact Nat.le_refl _)] at hv
      obtain ⟨g,cap',rfl,hR⟩:=hv.form (by rw [HIl.out];omega)
      rw [HIl.out]
      have hk3:¬ ((k:Int)<(m:Int)):=by omega
      have X:=A1.up hb
      have x0:=X.cell 0 rfl;have x1:=X.cell 1 rfl;have x2:=X.cell 2 rfl
      have HR:=Lib.hid hR.at;have HB:=Lib.hid hb;have hg:=hR.lt.1
      have hsx:=hb.size
      clear hv hR hb X
      subst hk2
      go_wp2_with fail
      refine later_start (w:=wr) ?_
      intro v
      have j0:=fun v:Later wr=>v.cell x0
      have j1:=fun v:Later wr=>v.cell x1
      refine wp_region_later (by kernel_rfl) (by kernel_rfl) ?_
      repeat (go_big_quiet_step (fail))
      refine wpQuiet_nil ?_
      rintro _ ⟨v2,rfl⟩
      have HR5:=Lib.hid (HR.out.up v2.up);have HB5:=Lib.hid (up_trans HB.out v2.up)
      clear j0 j1 x0 x1 x2
      generalize v2.now=w5 at *
      clear v v2 HR HB
      go_wp2
      go_loopw [3,5,6,7] (fun v cv rv i wr=>RFoldRel w1 n k ls F v cv rv i wr) (fun _ _ _ i _=>n-(intOf i).toNat)
      case atStart=>exact ⟨0,g,cap',c,r,initL c r,by omega,rfl,rfl,rfl,by go_num,hg,HR5,HN0,HFu,HIl,by rw [List.drop_zero];exact HAll,by rw [List.drop_zero];exact HGo,⟨hc,hrr⟩,HB5.out⟩
      case round =>
        obtain ⟨t,G,cp,c',r',l,ht,rfl,rfl,rfl,rfl,hgG,HA,HIn,HFl,HLn,HM,HG,hcr,hb⟩:=hrel
        have X:=A1.up hb
        have x0:=X.cell 0 rfl;have x1:=X.cell 1 rfl;have x2:=X.cell 2 rfl
        by_cases hlt:t<n
        · obtain ⟨p,hp⟩:∃ p,ls[t]?=some p:=⟨ls[t]'(by rw [HN.out];exact hlt),List.getElem?_eq_getElem _⟩
          obtain ⟨b,off,rfl,hc⟩:=HI.out.resolve_left (by rintro rfl;cases hp)
          have HC:=Lib.hid hc
          obtain ⟨d0,d1,d2⟩:=hc.up (up_trans B1.out hb) t p hp
          have hd:=drop_step hp
          have hM:=HM.out
          rw [hd] at hM
          obtain ⟨hcan,hM2⟩:=allM_first hM
          have hG2:=HG.out
          rw [hd] at hG2
          have hsd:=hcan.side
          have hn64:1≤p.n∧p.n≤64:=by have:=hcan.n1;split at hsd<;>omega
          have KA:=refStep_any l G cp p.d p.n p.u c' r' wr HA.out (by rw [HLn.out];omega) (by rw [HLn.out];omega) ⟨hcan.d1,hcan.d4⟩ hn64 hcr.1 hcr.2 HIn.out (full_over hcan HFl.out) (full_rest hcan HFl.out)
          rw [HLn.out] at KA
          have hI2:=step_in (u:=p.u) hcan HIn.out
          have hF2:=full_step (u:=p.u) hcan HFl.out
          have hL2:(stepR p.d p.n p.u c' r' l).length=k:=by rw [step_length];exact HLn.out
          have hG3:goL (newC p.d p.n c') (newR p.d p.n r') (stepR p.d p.n p.u c' r' l) (ls.drop (t+1))=F:=hG2
          have hcr2:(1≤newC p.d p.n c'∧newC p.d p.n c'≤64)∧1≤newR p.d p.n r'∧newR p.d p.n r'≤64:=by
            unfold newC newR
            split at hsd<;>rename_i hle<;>simp only [hle,if_true,if_false]<;>omega
          have hnc:newC p.d p.n c'=if p.d≤2 then c'-p.n else c':=rfl
          have hnr:newR p.d p.n r'=if p.d≤2 then r' else r'-p.n:=rfl
          have z0:(0:Int)≤(t:Int):=by omega
          have z1:(t:Int)<(n:Int):=by omega
          have w2:wrap64 (c'-p.n)=c'-p.n:=IntWalk.wrap64_in _ (by omega)
          have w3:wrap64 (r'-p.n)=r'-p.n:=IntWalk.wrap64_in _ (by omega)
          have HKA:=Lib.hid KA;have HIn2:=Lib.hid hI2;have HF2:=Lib.hid hF2;have HL2:=Lib.hid hL2;have HG3:=Lib.hid hG3;have HM2:=Lib.hid hM2;have HB:=Lib.hid hb;have HCR:=Lib.hid hcr2
          have HP:=Lib.hid hp;have HNC:=Lib.hid hnc;have HNR:=Lib.hid hnr
          generalize newC p.d p.n c'=nc at *
          generalize newR p.d p.n r'=nr at *
          generalize stepR p.d p.n p.u c' r' l=l2 at *
          obtain ⟨pd,pn,pu⟩:=p
          simp only at d0 d1 d2 HKA HIn2 HF2 HL2 HG3 HM2 w2 w3 HCR HNC HNR
          clear KA hI2 hF2 hL2 hG3 hM2 hb hM hG2 hd hc hp HIn HFl HLn HM HG hsd hcan hcr2 HA hcr hnc hnr
          go_wp2_with fail
          refine HKA.out.mono ?_
          rintro e w6 ⟨g2,cp2,rfl,hR2,hb2⟩
          have hbb:=up_trans HB.out hb2
          have X:=A1.up hbb
          have x0':=X.cell 0 rfl;have x1':=X.cell 1 rfl;have x2':=X.cell 2 rfl
          obtain ⟨d0',d1',d2'⟩:=HC.out.up (up_trans B1.out hbb) t _ HP.out
          have hgs:=HB.out.size
          have hg2:=hR2.lt.1
          have HR2:=Lib.hid hR2.at;have HBB:=Lib.hid hbb
          clear hR2 hb2 hbb X d0 d1 d2 x0 x1 x2
          simp only at d0' d1' d2'
          by_cases hd2:pd≤2
          · have e1:=HNC.out;have e2:=HNR.out
            rw [if_pos hd2] at e1 e2
            go_wp2
            refine ⟨⟨t+1,g2,cp2,nc,nr,l2,by omega,rfl,by rw [e1,w2],by rw [e2],by go_num,by omega,HR2,HIn2,HF2,HL2,HM2,HG3,HCR.out,HBB.out⟩,by simp [intOf];omega⟩
          · have e1:=HNC.out;have e2:=HNR.out
            rw [if_neg hd2] at e1 e2
            go_wp2
            refine ⟨⟨t+1,g2,cp2,nc,nr,l2,by omega,rfl,by rw [e1],by rw [e2,w3],by go_num,by omega,HR2,HIn2,HF2,HL2,HM2,HG3,HCR.out,HBB.out⟩,by simp [intOf];omega⟩
        · have ht2:t=n:=by omega
          have hG2:=HG.out
          rw [List.drop_of_length_le (by rw [HN.out];omega),goL] at hG2
          rw [hG2] at HA
          have HB:=Lib.hid hb
          subst ht2
          clear hG2 HG HM HIn HFl HLn hb
          go_wp2
          go_ret
          exact ⟨G,cp,rfl,HA.out,by omega,up_trans B1.out HB.out⟩
end Go.Proofs.YtbbjileignefbaaGreatDoor
namespace Go.Proofs.YtbbjileignefbaaGreatDoor
open Go.Deep Go.ChangeShapes Go.WideShapes
def FitV (u:Option TypeDesc) (v:Value):Prop:=match u with
 | some (.int k)=>∃ z,v=.int k z∧(Lit.int k z).wf=true
 | some .bool=>∃ b,v=.bool b
 | some .string=>∃ s:ByteArray,v=.string s∧s.size≤maxLen
 | _=>True
theorem list_of {α:Type} {Q:Nat→α→Prop}:∀ (n:Nat),(∀ i,i<n→∃ x,Q i x)→∃ l:List α,l.length=n∧∀ i x,l[i]?=some x→Q i x
 | 0,_=>⟨[],rfl,fun i x h=>by simp at h⟩
 | n+1,h=>by
  obtain ⟨l,hl,hq⟩:=list_of n (fun i hi=>h i (by omega))
  obtain ⟨x,hx⟩:=h n (by omega)
  refine ⟨l++[x],by simp [hl],fun i y hy=>?_⟩
  rcases Nat.lt_or_ge i n with hi | hi
  ·rw [List.getElem?_append_left (by omega)] at hy
   exact hq i y hy
  ·rw [List.getElem?_append_right (by omega),List.getElem?_singleton] at hy
   split at hy
   ·cases hy
    obtain rfl:i=n:=by omega
    exact hx
   ·cases hy
section
variable {H:Type} {enc:TypeId×Value→H} {P:Program} {w:World} {base:Nat} {spare:Nat→Bool} {held:Bool}
theorem trod_fit {t:TypeId} {fuel:Nat} {cs:List Value} {x:DataW H×List MemPlace} (hc:cs.length=1) (h:DataW.trod enc P w base spare held fuel t cs=some x):∃ v,cs=[v]∧FitV (P.underlying t) v:=by
 obtain ⟨v,rfl⟩:=List.length_eq_one_iff.1 hc
 refine ⟨v,rfl,?_⟩
 unfold FitV
 split
 ·rename_i k hk
  obtain ⟨z,hz,_,hw⟩:=DataW.trod_int hk h
  exact ⟨z,by simpa using hz,hw⟩
 ·rename_i hk
  obtain ⟨b,hb,_⟩:=DataW.trod_bool hk h
  exact ⟨b,by simpa using hb⟩
 ·rename_i hk
  obtain ⟨s,hs,_,hw⟩:=DataW.trod_string hk h
  exact ⟨s,by simpa using hs,hw⟩
 ·trivial
theorem fit_int {t:TypeId} {k:IntKind} {p:Addr} (ht:P.underlying t=some (.int k)) (h:∃ v,w.cell? p=some v∧FitV (P.underlying t) v):∃ z,w.cell? p=some (.int k z)∧(Lit.int k z).wf=true:=by
 obtain ⟨v,hc,hv⟩:=h
 rw [ht] at hv
 obtain ⟨z,rfl,hz⟩:=hv
 exact ⟨z,hc,hz⟩
theorem fit_bool {t:TypeId} {p:Addr} (ht:P.underlying t=some .bool) (h:∃ v,w.cell? p=some v∧FitV (P.underlying t) v):∃ z,w.cell? p=some (.bool z):=by
 obtain ⟨v,hc,hv⟩:=h
 rw [ht] at hv
 obtain ⟨z,rfl⟩:=hv
 exact ⟨z,hc⟩
theorem open_cell_structs {t e:TypeId} {fs:Array Field} {fuel:Nat} {cs:List Value} {x:DataW H×List MemPlace} (ht:P.underlying t=some (.slice e)) (he:P.underlying e=some (.struct fs))
  (hone:oneCellFields P fs=true) (ce:P.cellsOf e=fs.size) (h:DataW.trod enc P w base spare held fuel t cs=some x) :
  cs=[.slice none 0 0]∨∃ (a:Addr) (len cap:Nat),cs=[.slice (some a) len cap]∧len≤cap∧cap≤maxLen ∧
   ∀ i,i<len→∀ j f,fs[j]?=some f→∃ v,w.cell? (a.add (i*fs.size+j))=some v∧FitV (P.underlying f.type) v:=by
 rcases open_slice ht h with ⟨h0,_⟩ | ⟨a,len,cap,m,n,D,Pl,rfl,hb,hl,hm,hmm,rfl,hx⟩
 ·exact .inl h0
 right
 have hlm:len≤m:=by rw [hmm];split<;>omega
 refine ⟨a,len,cap,rfl,hl,hm,fun i hi j f hfj=>?_⟩
 have hj:j<fs.size:=(Array.getElem?_eq_some_iff.1 hfj).1
 obtain ⟨cs',h1,h2⟩:=hx i (by omega)
 rw [ce] at h1
 obtain ⟨_,hlen,hcell⟩:=World.cells?_some h1
 obtain ⟨xs,k,_,_,_,hxl,hf⟩:=DataW.trod_struct he h2
 obtain ⟨o,c⟩:=hone_of hone j _ hfj
 have g:=hf j _ hfj
 rw [o,c,List.getElem?_eq_getElem (by omega)] at g
 obtain ⟨v,hv,hw⟩:=trod_fit (by rw [List.length_take,List.length_drop];omega) g
 have e1:=hcell j hj
 rw [Go.Deep.add_add] at e1
 have e2:cs'[j]?=some v:=by
  have:((cs'.drop j).take 1)[0]?=some v:=by rw [hv];rfl
  simpa using this
 exact ⟨v,e1.trans e2,hw⟩
end
end Go.Proofs.YtbbjileignefbaaGreatDoor
namespace Go.Proofs.YtbbjileignefbaaGreatDoor
open Go.RowKit
theorem steps_of (a:Option Addr) (len cap:Nat) (w:World)
  (h:(a=none∧len=0∧cap=0)∨∃ x,a=some x∧len≤cap∧cap≤maxLen∧∀ i,i<len→(∃ z,w.cell? (x.add (i*3+0))=some (.int .i64 z)∧(Lit.int .i64 z).wf=true)∧(∃ z,w.cell? (x.add (i*3+1))=some (.int .i64 z)∧(Lit.int .i64 z).wf=true)∧(∃ z,w.cell? (x.add (i*3+2))=some (.bool z))) :
  ∃ l:List Sp,l.length=len∧(l=[]∨∃ b off,a=some ⟨b,off,none⟩∧InS w b off l):=by
 rcases h with ⟨rfl,rfl,rfl⟩ | ⟨x,rfl,hl,hm,hc⟩
 ·exact ⟨[],rfl,.inl rfl⟩
 ·by_cases h0:len=0
  ·subst h0;exact ⟨[],rfl,.inl rfl⟩
  obtain ⟨b,off,spot⟩:=x
  have hspot:spot=none:=by
   obtain ⟨⟨z,hz,_⟩,_⟩:=hc 0 (by omega)
   simpa [Addr.add] using World.cell?_spot hz
  subst hspot
  obtain ⟨l,e,hq⟩:=list_of (Q:=fun i (p:Sp)=>w.cell? ⟨b,off+i*3,none⟩=some (.int .i64 p.d)∧w.cell? ⟨b,off+i*3+1,none⟩=some (.int .i64 p.n)∧w.cell? ⟨b,off+i*3+2,none⟩=some (.bool p.u)) len (fun i hi=>by
   obtain ⟨⟨d,h1,_⟩,⟨n,h2,_⟩,u,h3⟩:=hc i hi
   rw [Go.WideShapes.add_plain] at h1 h2 h3
   exact ⟨⟨d,n,u⟩,by simpa using h1,by rw [Nat.add_assoc];exact h2,by rw [Nat.add_assoc];exact h3⟩)
  exact ⟨l,e,.inr ⟨b,off,rfl,hq⟩⟩
def GotP (w:World) (b:Option Addr) (P:List Pn):Prop:=P=[]∨∃ g,b=some ⟨g,0,none⟩∧PnRow w g P
theorem GotP.up {w w':World} {b:Option Addr} {P:List Pn} (h:GotP w b P) (hb:Below w.heap.size w w'):GotP w' b P:=h.imp id fun ⟨g,e,h⟩=>⟨g,e,h.up hb⟩
def panR (s:Sc):List Pn:=if rightM s=true then panL s else []
def numR (s:Sc):List Int:=if rightM s=true then (pcL s).map Pc.n else []
theorem panR_length (s:Sc):(panR s).length≤64∧(numR s).length=(panR s).length:=by
 unfold panR numR
 by_cases h:rightM s=true
 ·obtain ⟨_,_,hm,_,_⟩:=right_bounds h
  rw [if_pos h,if_pos h,panL_length,List.length_map,pcL_length]
  omega
 ·rw [if_neg h,if_neg h]
  simp
def GotN (w:World) (b:Option Addr) (N:List Int):Prop:=N=[]∨∃ g,b=some ⟨g,0,none⟩∧∀ i x,N[i]?=some x→w.cell? ⟨g,i,none⟩=some (.int .i64 x)
theorem GotN.up {w w':World} {b:Option Addr} {N:List Int} (h:GotN w b N) (hb:Below w.heap.size w w'):GotN w' b N:=h.imp id fun ⟨g,e,h⟩=>⟨g,e,fun i x hx=>bl_cell hb (h i x hx)⟩
end Go.Proofs.YtbbjileignefbaaGreatDoor
namespace Go.Proofs.YtbbjileignefbaaGreatDoor
def pcR (s:Sc):List Pc:=if rightM s=true then pcL s else []
theorem numR_eq (s:Sc):numR s=(pcR s).map Pc.n:=by unfold numR pcR;split<;>rfl
theorem pcR_length (s:Sc):(panR s).length=(pcR s).length:=by
 unfold panR pcR
 split
 ·rw [panL_length,pcL_length]
 ·rfl
theorem pcR_at (s:Sc) (k:Nat) (p:Pc) (hp:(pcR s)[k]?=some p):∃ j:Nat,j<(pcR s).length∧p.n=(j:Int)∧(panR s)[j]?=some ⟨(k:Int),p.fx,p.fy⟩:=by
 unfold pcR panR at *
 by_cases h:rightM s=true
 ·rw [if_pos h] at hp ⊢
  rw [if_pos h]
  obtain ⟨hk,rfl⟩:=List.getElem?_eq_some_iff.1 hp
  obtain ⟨j,hj,e⟩:=pcL_num s k hk
  obtain ⟨k',hk',e1,e2⟩:=panL_at s j hj
  obtain rfl:k'=k:=pcL_nodup s hk' hk (by rw [e1,e])
  exact ⟨j,hj,e,e2⟩
 ·rw [if_neg h] at hp
  simp at hp
theorem pcR_c (s:Sc) (h:0<(pcR s).length):1≤s.c∧s.c≤64:=by
 unfold pcR at h
 by_cases hr:rightM s=true
 ·exact (right_bounds hr).1
 ·rw [if_neg hr] at h
  exact absurd h (Nat.lt_irrefl _)
def edgN (c x y:Int) (fx fy:Bool):Int:=if y=x+1∧y.tmod c≠0 then (if fx=true then 1 else 2) else if y=x+c then (if fy=true then 3 else 4) else 0
def edgP (c:Int) (p q:Pc):Int:=if p.n≤q.n then edgN c p.n q.n p.fx p.fy else edgN c q.n p.n q.fx q.fy
def edgM (c:Int) (L:List Pc) (a b:Int):Int:=if (0≤a∧a<L.length)∧0≤b∧b<L.length then edgP c (L[a.toNat]?.getD default) (L[b.toNat]?.getD default) else 0
theorem edgM_out {c:Int} {L:List Pc} {a b:Int} (h:¬ ((0≤a∧a<L.length)∧0≤b∧b<L.length)):edgM c L a b=0:=by unfold edgM;rw [if_neg h]
theorem edgM_in {c:Int} {L:List Pc} {a b:Nat} {p q:Pc} (ha:L[a]?=some p) (hb:L[b]?=some q):edgM c L a b=edgP c p q:=by
 obtain ⟨h1,_⟩:=List.getElem?_eq_some_iff.1 ha
 obtain ⟨h2,_⟩:=List.getElem?_eq_some_iff.1 hb
 unfold edgM
 rw [if_pos (by omega),Int.toNat_natCast,Int.toNat_natCast,ha,hb]
 rfl
theorem edgN_places {c x y:Int} (fx fy:Bool) (hc:1≤c) (hx:0≤x) (hxy:x≤y) :
  edgN c x y fx fy=if x.tdiv c=y.tdiv c∧y.tmod c=x.tmod c+1 then (if fx=true then 1 else 2) else if x.tmod c=y.tmod c∧y.tdiv c=x.tdiv c+1 then (if fy=true then 3 else 4) else 0:=by
 have sp:∀ z:Int,0≤z→∃ u v:Int,z.tdiv c=u∧z.tmod c=v∧z=u*c+v∧0≤u∧0≤v∧v<c:=fun z hz=>by
  refine ⟨_,_,rfl,rfl,?_,Int.tdiv_nonneg hz (by omega),Int.tmod_nonneg _ hz,Int.tmod_lt_of_pos _ (by omega)⟩
  have:=Int.mul_tdiv_add_tmod z c
  rw [Int.mul_comm]
  omega
 obtain ⟨u,v,e1,e2,e3,u0,v0,v1⟩:=sp x hx
 obtain ⟨u',v',e1',e2',e3',u0',v0',v1'⟩:=sp y (by omega)
 have k1:(y=x+1∧y.tmod c≠0)↔(x.tdiv c=y.tdiv c∧y.tmod c=x.tmod c+1):=by
  constructor
  ·rintro ⟨h1,h2⟩
   by_cases hv:v+1<c
   ·obtain ⟨t1,t2⟩:=td u (v+1) c u0 (by omega) hv
    have:y=u*c+(v+1):=by omega
    rw [e1,e2,this,t1,t2]
    exact ⟨rfl,rfl⟩
   ·exfalso
    obtain ⟨t1,t2⟩:=td (u+1) 0 c (by omega) (by omega) (by omega)
    have:y=(u+1)*c+0:=by rw [Int.add_mul];omega
    rw [this,t2] at h2
    exact h2 rfl
  ·rintro ⟨h1,h2⟩
   rw [e1,e1'] at h1
   rw [e2,e2'] at h2
   subst h1
   rw [e2']
   omega
 have k2:(y=x+c)↔(x.tmod c=y.tmod c∧y.tdiv c=x.tdiv c+1):=by
  constructor
  ·intro h
   obtain ⟨t1,t2⟩:=td (u+1) v c (by omega) v0 v1
   have:y=(u+1)*c+v:=by rw [Int.add_mul];omega
   rw [e1,e2,this,t1,t2]
   exact ⟨rfl,rfl⟩
  ·rintro ⟨h1,h2⟩
   rw [e2,e2'] at h1
   rw [e1,e1'] at h2
   subst h1 h2
   rw [Int.add_mul] at e3'
   omega
 unfold edgN
 simp only [k1,k2]
def nestM (c:Int) (L:List Pc):Bool:=decide (0<L.length)&&(decide (L.length%2=0)&&(List.range (L.length / 2)).all fun k=>decide (edgM c L (k:Int) ((L.length:Int)-1-(k:Int))=1))
theorem nest_pair {c:Int} {L:List Pc} (h:nestM c L=true):0<L.length∧L.length%2=0∧∀ k,k<L.length / 2→edgM c L (k:Int) ((L.length:Int)-1-(k:Int))=1:=by
 unfold nestM at h
 simp only [Bool.and_eq_true,decide_eq_true_eq,List.all_eq_true,List.mem_range] at h
 exact h
theorem nest_no {c:Int} {L:List Pc} {k:Nat} (hk:k<L.length / 2) (h:edgM c L (k:Int) ((L.length:Int)-1-(k:Int))≠1):nestM c L=false:=by
 cases e:nestM c L
 ·rfl
 ·exact absurd ((nest_pair e).2.2 k hk) h
theorem nest_yes {c:Int} {L:List Pc} (h0:0<L.length) (h1:L.length%2=0) (h:∀ k,k<L.length / 2→edgM c L (k:Int) ((L.length:Int)-1-(k:Int))=1):nestM c L=true:=by
 unfold nestM
 simp only [Bool.and_eq_true,decide_eq_true_eq,List.all_eq_true,List.mem_range]
 exact ⟨h0,h1,h⟩
theorem nest_odd {c:Int} {L:List Pc} (h:L.length=0∨L.length%2≠0):nestM c L=false:=by
 cases e:nestM c L
 ·rfl
 ·have:=nest_pair e
  omega
end Go.Proofs.YtbbjileignefbaaGreatDoor
namespace Go.Proofs.YtbbjileignefbaaGreatDoor
open Go.RowKit
theorem find_right {nm:List UInt8} {s:Sc} (h:findM nm=some s):rightM s=true:=by
 have key:∀ e∈catS,rightM e.2=true:=by decide +kernel
 exact key _ (find_some h)
def panS (s:Sc):Int:=panM s.c s.r
theorem right_pan {s:Sc} (h:rightM s=true):1≤panS s∧panS s≤64:=by
 unfold rightM at h
 simp only [Bool.and_eq_true,decide_eq_true_eq] at h
 exact ⟨h.1.1,h.1.2⟩
theorem pan_ge (s:Sc):0≤panS s∧panS s≤4096:=by
 unfold panS panM
 split
 next h=>have:=pan_in h;omega
 next=>omega
def foldsM (j:Jb):Bool:=if j.n 10=3 then decide (j.f.l.length=0)&&(decide (1≤panS j.f)&&decide (panS j.f≤64)) else rightM j.f
theorem folds_pan {j:Jb} (h:foldsM j=true):(1≤panS j.f∧panS j.f≤64)∧j.f.l.length≤6:=by
 unfold foldsM at h
 split at h
 ·simp only [Bool.and_eq_true,decide_eq_true_eq] at h
  exact ⟨⟨h.2.1,h.2.2⟩,by omega⟩
 ·exact ⟨right_pan h,(right_bounds h).2.2.2.1⟩
def endB (b p:Int) (nm:List UInt8):Bool:=(findM nm).isSome&&(decide (panS ((findM nm).getD zeroSc)<p)&&(!decide (b=1) || nestM ((findM nm).getD zeroSc).c (pcR ((findM nm).getD zeroSc))))
def mostM (b:Int):Nat:=if b=3∨b=4 then 0 else 4
def endsM (j:Jb):Bool:=decide (j.ls.length≤mostM (j.n 10))&&j.ls.all (endB (j.n 10) (panS j.f))
def lastM (j:Jb):Bool:=foldsM j&&endsM j
def partB (j:Jb):Bool:=lastM j&&(decide (1≤j.n 0)&&decide (j.n 0≤100000))
def othersM (n p:Int):Int:=(n-1).tdiv (2*p)
def restM2 (n p:Int):Int:=n-othersM n p*(2*p)
def lessM (p:Int) (b:Sc) (nm:List UInt8):Sc:=if p≤2*panS ((findM nm).getD zeroSc)∧panS ((findM nm).getD zeroSc)<panS b then (findM nm).getD zeroSc else b
def endM (j:Jb) (p:Int):Sc:=j.ls.foldl (lessM p) j.f
def lastS (j:Jb):Sc:=endM j (restM2 (j.n 0) (panS j.f))
def ofM (j:Jb):List Sc:=if partB j=true then List.replicate (othersM (j.n 0) (panS j.f)).toNat j.f++[lastS j] else []
theorem others_bounds {n p:Int} (h1:1≤n) (h2:n≤100000) (p1:1≤p):0≤othersM n p∧othersM n p<50000∧1≤restM2 n p∧restM2 n p≤2*p∧othersM n p*(2*p)≤100000∧0≤othersM n p*(2*p):=by
 unfold restM2 othersM
 rw [Int.tdiv_eq_ediv_of_nonneg (by omega)]
 have e1:=Int.emod_nonneg (n-1) (show 2*p≠0 by omega)
 have e2:=Int.emod_lt_of_pos (n-1) (show 0<2*p by omega)
 have e3:=Int.emod_add_mul_ediv (n-1) (2*p)
 have e4:0≤(n-1) / (2*p):=Int.ediv_nonneg (by omega) (by omega)
 have e5:(n-1) / (2*p)≤(n-1) / 2:=by
  rw [←Int.ediv_ediv_of_nonneg (by omega)]
  exact Int.ediv_le_self _ (by omega)
 rw [Int.mul_comm (2*p) ((n-1) / (2*p))] at e3
 generalize (n-1) / (2*p)=q at *
 have e6:0≤q*(2*p):=Int.mul_nonneg e4 (by omega)
 generalize q*(2*p)=z at *
 omega
theorem others_one {n p k:Int} (h1:1≤n) (p1:1≤p) (h2:1≤n-k*(2*p)) (h3:n-k*(2*p)≤2*p) (hk:0≤k):othersM n p=k:=by
 unfold othersM
 rw [Int.tdiv_eq_ediv_of_nonneg (by omega)]
 apply Int.le_antisymm
 ·have:(n-1) / (2*p)<k+1:=Int.ediv_lt_of_lt_mul (by omega) (by rw [Int.add_mul];omega)
  omega
 ·exact Int.le_ediv_of_mul_le (by omega) (by omega)
theorem less_pan {p:Int} {b:Sc} {nm:List UInt8} (h:p≤2*panS b):p≤2*panS (lessM p b nm)∧panS (lessM p b nm)≤panS b:=by
 unfold lessM
 split<;>omega
theorem foldl_pan (p:Int):∀ (l:List (List UInt8)) (b:Sc),p≤2*panS b→p≤2*panS (l.foldl (lessM p) b)∧panS (l.foldl (lessM p) b)≤panS b
 | [],b,h=>⟨h,Int.le_refl _⟩
 | nm :: l,b,h=>by
  have h1:=less_pan (nm:=nm) h
  have h2:=foldl_pan p l _ h1.1
  exact ⟨h2.1,by simp only [List.foldl_cons];omega⟩
theorem foldl_small (p:Int):∀ (l:List (List UInt8)) (b:Sc),b.l.length≤6∧1≤panS b∧panS b≤64→(∀ nm∈l,(findM nm).isSome=true)→(l.foldl (lessM p) b).l.length≤6∧1≤panS (l.foldl (lessM p) b)∧panS (l.foldl (lessM p) b)≤64
 | [],b,h,_=>h
 | x :: l,b,h,hs=>by
  simp only [List.foldl_cons]
  refine foldl_small p l _ ?_ (fun nm hm=>hs nm (List.mem_cons_of_mem _ hm))
  unfold lessM
  split
  ·have hx:=hs x (List.mem_cons_self ..)
   obtain ⟨s,hs⟩:=Option.isSome_iff_exists.1 hx
   rw [hs]
   exact ⟨(right_bounds (find_right hs)).2.2.2.1,right_pan (find_right hs)⟩
  ·exact h
theorem ends_found {j:Jb} (h:endsM j=true):∀ nm∈j.ls,(findM nm).isSome=true:=by
 unfold endsM at h
 rw [Bool.and_eq_true] at h
 intro nm hm
 have:=List.all_eq_true.1 h.2 nm hm
 unfold endB at this
 rw [Bool.and_eq_true] at this
 exact this.1
theorem ends_length {j:Jb} (h:endsM j=true):j.ls.length≤4:=by
 unfold endsM mostM at h
 rw [Bool.and_eq_true,decide_eq_true_eq] at h
 have:=h.1
 split at this<;>omega
theorem part_facts {j:Jb} (h:partB j=true):(1≤panS j.f∧panS j.f≤64)∧j.f.l.length≤6∧(1≤j.n 0∧j.n 0≤100000)∧j.ls.length≤4∧(∀ nm∈j.ls,(findM nm).isSome=true)
  ∧ (lastS j).l.length≤6∧(1≤panS (lastS j)∧panS (lastS j)≤panS j.f)∧restM2 (j.n 0) (panS j.f)≤2*panS (lastS j):=by
 unfold partB lastM at h
 simp only [Bool.and_eq_true,decide_eq_true_eq] at h
 obtain ⟨⟨h1,h2⟩,h3,h4⟩:=h
 obtain ⟨p1,p2⟩:=folds_pan h1
 have hs:=ends_found h2
 obtain ⟨b1,b2,b3,b4,-⟩:=others_bounds h3 h4 p1.1
 have hf:=foldl_pan (restM2 (j.n 0) (panS j.f)) j.ls j.f b4
 have hsm:=foldl_small (restM2 (j.n 0) (panS j.f)) j.ls j.f ⟨p2,p1.1,p1.2⟩ hs
 exact ⟨p1,p2,⟨h3,h4⟩,ends_length h2,hs,hsm.1,⟨hsm.2.1,hf.2⟩,hf.1⟩
theorem part_last {j:Jb} (h:partB j=true):lastM j=true:=by
 unfold partB at h
 rw [Bool.and_eq_true] at h
 exact h.1
def cntS (j:Jb):Int:=if partB j=true then othersM (j.n 0) (panS j.f)+1 else 0
def leavesS (j:Jb):Int:=if partB j=true then othersM (j.n 0) (panS j.f)*panS j.f+panS (lastS j) else 0
theorem of_length (j:Jb):((ofM j).length:Int)=cntS j:=by
 unfold ofM cntS
 split
 next h =>
  obtain ⟨p1,p2,p3,-⟩:=part_facts h
  have:=others_bounds p3.1 p3.2 p1.1
  simp
  omega
 next=>rfl
theorem of_small (j:Jb):(ofM j).length≤50000:=by
 have:=of_length j
 unfold cntS at this
 split at this
 next h =>
  obtain ⟨p1,p2,p3,-⟩:=part_facts h
  have:=others_bounds p3.1 p3.2 p1.1
  omega
 next=>omega
theorem of_at {j:Jb} (h:partB j=true) (k:Nat) (hk:(k:Int)<cntS j):(ofM j)[k]?=some (if (k:Int)=cntS j-1 then lastS j else j.f):=by
 obtain ⟨p1,p2,p3,-⟩:=part_facts h
 have hb:=others_bounds p3.1 p3.2 p1.1
 unfold ofM
 unfold cntS at hk ⊢
 rw [if_pos h] at hk ⊢
 rw [if_pos h]
 by_cases hk2:k<(othersM (j.n 0) (panS j.f)).toNat
 ·rw [List.getElem?_append_left (by simpa using hk2),if_neg (by omega)]
  simp [hk2]
 ·rw [List.getElem?_append_right (by simp;omega),if_pos (by omega)]
  rw [List.length_replicate,show k-(othersM (j.n 0) (panS j.f)).toNat=0 by omega]
  rfl
theorem of_scheme (j:Jb):∀ s∈ofM j,s.l.length≤6∧1≤panS s∧panS s≤64:=by
 intro s hs
 unfold ofM at hs
 split at hs
 next h =>
  obtain ⟨p1,p2,p3,p4,p5,p6,p7,p8⟩:=part_facts h
  rcases List.mem_append.1 hs with hs | hs
  ·have:=List.eq_of_mem_replicate hs
   subst this
   exact ⟨p2,p1⟩
  ·simp at hs
   subst hs
   exact ⟨p6,p7.1,by omega⟩
 next=>cases hs
end Go.Proofs.YtbbjileignefbaaGreatDoor
namespace Go.Proofs.YtbbjileignefbaaGreatDoor
def ownF (s m:Nat):List (Nat×Nat):=(List.range m).map fun a=>(s,a)
theorem ownF_length (s m:Nat):(ownF s m).length=m:=by simp [ownF]
theorem ownF_at {s m a:Nat} (h:a<m):(ownF s m)[a]?=some (s,a):=by simp [ownF,List.getElem?_range h]
theorem ownF_succ (s m:Nat):ownF s (m+1)=ownF s m++[(s,m)]:=by simp [ownF,List.range_succ]
def leafN (n:Nat→Nat):Nat→Nat
 | 0=>0
 | k+1=>leafN n k+n k
def bkF (n t:Nat→Nat):Nat→List (Nat×Nat)
 | 0=>[]
 | k+1=>(bkF n t k).take (t k)++ownF k (n k)++(bkF n t k).drop (t k)
def psF (n t:Nat→Nat):Nat→Nat→Nat→Nat
 | 0,_,_=>0
 | k+1,i,a=>if i=k then t k+a else if psF n t k i a<t k then psF n t k i a else psF n t k i a+n k
section
variable {n t:Nat→Nat}
theorem bkF_length (ht:∀ k,t k≤leafN n k):∀ K,(bkF n t K).length=leafN n K
 | 0=>rfl
 | K+1=>by
  have:=ht K
  simp only [bkF,leafN,List.length_append,List.length_take,List.length_drop,ownF_length,bkF_length ht K]
  omega
theorem bkF_at (ht:∀ k,t k≤leafN n k):∀ K i a,i<K→a<n i→psF n t K i a<leafN n K∧(bkF n t K)[psF n t K i a]?=some (i,a)
 | 0,i,a,h,_=>absurd h (Nat.not_lt_zero _)
 | K+1,i,a,h,ha=>by
  have hl:=bkF_length ht K
  have htK:=ht K
  have hlt:((bkF n t K).take (t K)).length=t K:=by rw [List.length_take,hl];omega
  by_cases hi:i=K
  ·subst hi
   simp only [psF,if_true,bkF,leafN]
   refine ⟨by omega,?_⟩
   rw [List.append_assoc,List.getElem?_append_right (by rw [hlt];omega),hlt,Nat.add_sub_cancel_left,List.getElem?_append_left (by rw [ownF_length];exact ha)]
   exact ownF_at ha
  ·obtain ⟨h1,h2⟩:=bkF_at ht K i a (by omega) ha
   simp only [psF,if_neg hi,bkF,leafN]
   by_cases hp:psF n t K i a<t K
   ·rw [if_pos hp]
    refine ⟨by omega,?_⟩
    rw [List.append_assoc,List.getElem?_append_left (by rw [hlt];exact hp),List.getElem?_take_of_lt hp]
    exact h2
   ·rw [if_neg hp]
    refine ⟨by omega,?_⟩
    rw [List.append_assoc,List.getElem?_append_right (by rw [hlt];omega),hlt,List.getElem?_append_right (by rw [ownF_length];omega),ownF_length,List.getElem?_drop]
    rw [show t K+(psF n t K i a+n K-t K-n K)=psF n t K i a by omega]
    exact h2
theorem bkF_each (ht:∀ k,t k≤leafN n k):∀ K x,x<leafN n K→∃ i a,i<K∧a<n i∧psF n t K i a=x
 | 0,x,h=>absurd h (Nat.not_lt_zero _)
 | K+1,x,h=>by
  have htK:=ht K
  simp only [leafN] at h
  by_cases h1:x<t K
  ·obtain ⟨i,a,hi,ha,e⟩:=bkF_each ht K x (by omega)
   refine ⟨i,a,by omega,ha,?_⟩
   simp only [psF]
   rw [if_neg (by omega),e,if_pos h1]
  ·by_cases h2:x<t K+n K
   ·refine ⟨K,x-t K,by omega,by omega,?_⟩
    simp only [psF,if_true]
    omega
   ·obtain ⟨i,a,hi,ha,e⟩:=bkF_each ht K (x-n K) (by omega)
    refine ⟨i,a,by omega,ha,?_⟩
    simp only [psF]
    rw [if_neg (by omega),e,if_neg (by omega)]
    omega
theorem leafN_mono {i K:Nat} (h:i≤K):leafN n i≤leafN n K:=by
 induction K with
 | zero =>
      obtain rfl:i=0:=by omega
      exact Nat.le_refl _
 | succ K ih =>
  by_cases hi:i=K+1
  ·subst hi;exact Nat.le_refl _
  ·have:=ih (by omega)
   simp only [leafN]
   omega
theorem psF_end:∀ K i a,i<K→a<n i→psF n (leafN n) K i a=leafN n i+a
 | 0,i,a,h,_=>absurd h (Nat.not_lt_zero _)
 | K+1,i,a,h,ha=>by
  simp only [psF]
  by_cases hi:i=K
  ·rw [if_pos hi,hi]
  ·have e:=psF_end K i a (by omega) ha
   have:=leafN_mono (n:=n) (i:=i+1) (K:=K) (by omega)
   simp only [leafN] at this
   rw [if_neg hi,e,if_pos (by omega)]
theorem psF_ahead:∀ K i a,i<K→a<n i→psF n (fun _=>0) K i a+leafN n (i+1)=leafN n K+a
 | 0,i,a,h,_=>absurd h (Nat.not_lt_zero _)
 | K+1,i,a,h,ha=>by
  simp only [psF]
  by_cases hi:i=K
  ·subst hi
   rw [if_pos rfl]
   omega
  ·have e:=psF_ahead K i a (by omega) ha
   rw [if_neg hi,if_neg (by omega)]
   simp only [leafN] at e ⊢
   omega
theorem psF_into (he:∀ i,n i%2=0):∀ K i a,i<K→a<n i→(a<n i / 2→psF n (fun k=>leafN n k / 2) K i a=leafN n i / 2+a)∧(n i / 2≤a→psF n (fun k=>leafN n k / 2) K i a+leafN n i / 2+n i=leafN n K+a)
 | 0,i,a,h,_=>absurd h (Nat.not_lt_zero _)
 | K+1,i,a,h,ha=>by
  have hev:∀ k,leafN n k%2=0:=fun k=>by
   induction k with
   | zero=>rfl
   | succ k ih=>simp only [leafN];have:=he k;omega
  have eK:=hev K;have ei:=hev i;have ni:=he i;have nK:=he K
  simp only [psF]
  by_cases hi:i=K
  ·subst hi
   rw [if_pos rfl]
   refine ⟨fun _=>rfl,fun _=>?_⟩
   simp only [leafN]
   omega
  ·obtain ⟨e1,e2⟩:=psF_into he K i a (by omega) ha
   have:=leafN_mono (n:=n) (i:=i+1) (K:=K) (by omega)
   simp only [leafN] at this ⊢
   rw [if_neg hi]
   constructor
   ·intro h1
    rw [e1 h1,if_pos (by omega)]
   ·intro h1
    have:=e2 h1
    rw [if_neg (by omega)]
    omega
end
def rowF (K n:Nat):List (Nat×Nat):=(List.range K).map fun i=>(i,n)
theorem rowF_length (K n:Nat):(rowF K n).length=K:=by simp [rowF]
theorem rowF_succ (K n:Nat):rowF (K+1) n=rowF K n++[(K,n)]:=by simp [rowF,List.range_succ]
def pilesF (K:Nat):Nat→List (Nat×Nat)
 | 0=>[]
 | n+1=>pilesF K n++rowF K n
theorem pilesF_length (K:Nat):∀ P,(pilesF K P).length=P*K
 | 0=>by simp [pilesF]
 | P+1=>by rw [pilesF,List.length_append,pilesF_length K P,rowF_length,Nat.add_mul];omega
theorem pilesF_at {K:Nat}:∀ P i a,i<K→a<P→(pilesF K P)[a*K+i]?=some (i,a)
 | 0,i,a,_,h=>absurd h (Nat.not_lt_zero _)
 | P+1,i,a,hi,ha=>by
  rw [pilesF]
  by_cases h:a=P
  ·subst h
   rw [List.getElem?_append_right (by rw [pilesF_length];omega),pilesF_length,Nat.add_sub_cancel_left]
   simp [rowF,List.getElem?_range hi]
  ·have h2:(a+1)*K≤P*K:=Nat.mul_le_mul_right _ (by omega)
   rw [Nat.add_mul] at h2
   rw [List.getElem?_append_left (by rw [pilesF_length];omega)]
   exact pilesF_at P i a hi (by omega)
theorem pilesF_each {K P x:Nat} (h:x<P*K):x%K<K∧x / K<P∧x / K*K+x%K=x:=by
 have hK:0<K:=Nat.pos_of_ne_zero fun e=>by subst e;omega
 refine ⟨Nat.mod_lt _ hK,(Nat.div_lt_iff_lt_mul hK).2 h,?_⟩
 rw [Nat.mul_comm]
 exact Nat.div_add_mod x K
end Go.Proofs.YtbbjileignefbaaGreatDoor
