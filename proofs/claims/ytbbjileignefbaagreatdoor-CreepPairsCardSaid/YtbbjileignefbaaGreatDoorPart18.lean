/- Part 18 of the texts that the proofs of this seat share: DecLaid, SchemeLaid, CreepPairsK. -/
import Derived.Test.YtbbjileignefbaaGreatDoorPart2
import Derived.Test.YtbbjileignefbaaGreatDoorPart17
import Derived.Test.YtbbjileignefbaaGreatDoorPart3
import Derived.Shelf.Vars
import Derived.Test.YtbbjileignefbaaGreatDoorPart15
import Derived.Test.YtbbjileignefbaaGreatDoorPart14
set_option linter.unusedSimpArgs false
set_option linter.unusedVariables false
namespace Go.Proofs.YtbbjileignefbaaGreatDoor
open Go.RowKit DecMath
theorem gSyn : Tryz.prog.globalNamed "strconv.ErrSyntax" = some 5 := by kernel_rfl
theorem gRng : Tryz.prog.globalNamed "strconv.ErrRange" = some 6 := by kernel_rfl
theorem tSyn:(Tryz.prog.globals[5]?).map (·.type)=some 90:=by kernel_rfl
theorem tRng:(Tryz.prog.globals[6]?).map (·.type)=some 90:=by kernel_rfl
theorem cErr:Tryz.prog.cellsOf 210=1:=by kernel_rfl
theorem cStr:Tryz.prog.cellsOf 9=1:=by kernel_rfl
theorem star : "*" ++ "errors.errorString" = "*errors.errorString" := by decide
theorem rowErr (u : TypeId) (h : Tryz.prog.typeName? 3 u = some "*errors.errorString") : u = 208 :=
 typeName_ptr_named (nm := "errors.errorString") (by rw [star]; kernel_rfl) (by kernel_rfl) (by decide) u (by rw [star]; exact h)
theorem good_of {l:List (String×DataW Unit)} {W:World} (h:laidMet Tryz.prog l W) (i j k:Nat)
  (e1 : l.drop i = ("internal/strconv.uint64pow10", Lib.tabData .u64 Lib.pow10Tab) :: l.drop (i + 1))
  (e2 : l.drop j = ("strconv.ErrRange", .iface "*errors.errorString" (.ptr (.agg [.lit (.string [118, 97, 108, 117, 101, 32, 111, 117, 116, 32, 111, 102, 32, 114, 97, 110, 103, 101])]))) :: l.drop (j + 1))
  (e3 : l.drop k = ("strconv.ErrSyntax", .iface "*errors.errorString" (.ptr (.agg [.lit (.string [105, 110, 118, 97, 108, 105, 100, 32, 115, 121, 110, 116, 97, 120])]))) :: l.drop (k + 1)) : Good W := by
 have h1:=laid_drop i h
 have h2:=laid_drop j h
 have h3:=laid_drop k h
 rw [e1] at h1
 rw [e2] at h2
 rw [e3] at h3
 obtain ⟨a2,s2,v2,-,-,-⟩:=laid_sentinel h2 gRng tRng Tryz.underlying90 rowErr Tryz.underlying208 Tryz.underlying210 rfl rfl Tryz.underlying9 cErr cStr
 obtain ⟨a3,s3,v3,-,-,-⟩:=laid_sentinel h3 gSyn tSyn Tryz.underlying90 rowErr Tryz.underlying208 Tryz.underlying210 rfl rfl Tryz.underlying9 cErr cStr
 exact ⟨Lib.tabIs_of_head gPow tPow Tryz.underlying218 Tryz.underlying70 cU64 cPow h1,⟨_,_,v3⟩,_,_,v2⟩
theorem mx_of {W:World} (h:W.ShapedOpen Tryz.prog):Mx W :=
 cell_of_shapedOpen_int (g:=2) (t:=3) (zero:=#[.int .i64 0]) h (of_decide_eq_true (by kernel_rfl)) (by kernel_rfl) rfl (by kernel_rfl) (by kernel_rfl) Tryz.underlying3
end Go.Proofs.YtbbjileignefbaaGreatDoor
namespace Go.Proofs.YtbbjileignefbaaGreatDoor
open Go.RowKit
set_option maxRecDepth 100000 in
set_option maxHeartbeats 2000000 in
theorem cpairs_core (cs:List Value) (b x T n n2 x1 x2 xx:Int) (a a':Option Addr) (an cap k cap':Nat) (u v ok more s:Bool) (w:World) (hL:cs.length=33) (h11:cs[11]?=some (.int .i64 b)) (h14:cs[14]?=some (.slice a an cap)) (h15:cs[15]?=some (.slice a' k cap'))
  (e1:decide (6<k)=u) (e2:decide (10<an)=v) (e3:(b != 1)=s) (hno:ok=false→n=0)
  (hyes:ok=true→(0≤x∧x<T∧T≤3200000)∧T-1-x=x1∧x+1=x2∧2*x2=xx∧(s=true→n=0)∧(s=false→more=true→xx<T→n≤n2))
  (KA:∀ w1,Below w.heap.size w w1→Calls Tryz.prog 5 #[] w1 fun e w'=>e=.returned (.bool true)∧Below w1.heap.size w1 w')
  (KT:∀ w1,Below w.heap.size w w1→Calls Tryz.prog 14 #[.agg cs.toArray] w1 fun e w'=>e=.returned (.int .i64 T)∧Below w1.heap.size w1 w')
  (K0:∀ w1,Below w.heap.size w w1→Calls Tryz.prog 9 #[.agg cs.toArray,.int .i64 x] w1 fun e w'=>e=.returned (.tuple #[.int .i64 n,.bool ok])∧Below w1.heap.size w1 w')
  (K1:ok=true→∀ w1,Below w.heap.size w w1→Calls Tryz.prog 9 #[.agg cs.toArray,.int .i64 x1] w1 fun e w'=>(∃ m is,e=.returned (.tuple #[.int .i64 m,.bool is])∧(s=false→m=n∧is=true))∧Below w1.heap.size w1 w')
  (K2:ok=true→∀ w1,Below w.heap.size w w1→Calls Tryz.prog 9 #[.agg cs.toArray,.int .i64 x2] w1 fun e w'=>e=.returned (.tuple #[.int .i64 n2,.bool more])∧Below w1.heap.size w1 w') :
  Calls Tryz.prog 4 #[.agg cs.toArray,.int .i64 x] w fun e w'=>e=.returned (.bool true)∧Below w.heap.size w w':=by
 have HX:=Lib.hid (Bx.new w 29 cs)
 have HB:=Lib.hid (up_alloc (Below.refl w.heap.size w) (.cells cs.toArray 29))
 have HL:=Lib.hid hL;have H11:=Lib.hid h11;have H14:=Lib.hid h14;have H15:=Lib.hid h15
 have HA:=Lib.hid KA;have HT:=Lib.hid KT;have HK0:=Lib.hid K0;have HK1:=Lib.hid K1;have HK2:=Lib.hid K2;have HN:=Lib.hid hno;have HY:=Lib.hid hyes
 have e1':decide ((6:Int)<(k:Int))=u:=by rw [←e1,Bool.eq_iff_iff];simp;omega
 have e2':decide ((10:Int)<(an:Int))=v:=by rw [←e2,Bool.eq_iff_iff];simp;omega
 clear hL h11 h14 h15 KA KT K0 K1 K2 hno hyes
 go_enter Tryz.func4,Tryz.ntmps4
 go_wp2_with fail
 refine (HA.out _ HB.out).mono ?_
 rintro e w1 ⟨rfl,hb⟩
 have HX1:=Lib.hid (HX.out.later (by rw [HL.out];decide) hb)
 have HB1:=Lib.hid (up_trans HB.out hb)
 have c14:=HX1.out.cell 14 H14.out;have c15:=HX1.out.cell 15 H15.out
 clear hb
 cases u
 ·cases v
  ·go_wp2_with (refine wpList_load_job rfl _ rfl w.heap.size rfl cs HX1.out HL.out ?_;simp only [Act.put,List.setIfInBounds_toArray,List.set_cons_succ,List.set_cons_zero])
   refine (HT.out _ HB1.out).mono ?_
   rintro e w2 ⟨rfl,hb⟩
   have HX2:=Lib.hid (HX1.out.later (by rw [HL.out];decide) hb)
   have HB2:=Lib.hid (up_trans HB1.out hb)
   clear hb c14 c15
   go_wp2_with (refine wpList_load_job rfl _ rfl w.heap.size rfl cs HX2.out HL.out ?_;simp only [Act.put,List.setIfInBounds_toArray,List.set_cons_succ,List.set_cons_zero])
   refine (HK0.out _ HB2.out).mono ?_
   rintro e w3 ⟨rfl,hb⟩
   have HX3:=Lib.hid (HX2.out.later (by rw [HL.out];decide) hb)
   have HB3:=Lib.hid (up_trans HB2.out hb)
   clear hb
   cases ok
   ·obtain rfl:=HN.out rfl
    go_wp2
    go_ret
    exact ⟨rfl,HB3.out⟩
   ·obtain ⟨⟨x0,xT,T1⟩,q1,q2,q3,hs1,hs2⟩:=HY.out rfl
    obtain ⟨r,hr⟩:∃ r,T-1=r:=⟨_,rfl⟩
    rw [hr] at q1
    have HS1:=Lib.hid hs1;have HS2:=Lib.hid hs2
    have HQ3:=Lib.hid q3;have HQ2:=Lib.hid q2
    have c11:=HX3.out.cell 11 H11.out
    clear HY HN hs1 hs2 q3 q2
    go_wp2_with (refine wpList_load_job rfl _ rfl w.heap.size rfl cs HX3.out HL.out ?_;simp only [Act.put,List.setIfInBounds_toArray,List.set_cons_succ,List.set_cons_zero])
    refine (HK1.out (by trivial) _ HB3.out).mono ?_
    rintro e w4 ⟨⟨m,is,rfl,hm⟩,hb⟩
    have HX4:=Lib.hid (HX3.out.later (by rw [HL.out];decide) hb)
    have HB4:=Lib.hid (up_trans HB3.out hb)
    have d11:=bl_cell hb c11
    clear hb c11 hr q1
    cases s
    ·obtain ⟨rfl,rfl⟩:=hm rfl
     have q2:=HQ2.out
     clear hm
     go_wp2_with (refine wpList_load_job rfl _ rfl w.heap.size rfl cs HX4.out HL.out ?_;simp only [Act.put,List.setIfInBounds_toArray,List.set_cons_succ,List.set_cons_zero])
     refine (HK2.out (by trivial) _ HB4.out).mono ?_
     rintro e w5 ⟨rfl,hb⟩
     have HB5:=Lib.hid (up_trans HB4.out hb)
     clear hb
     have q3:=HQ3.out
     cases more
     ·go_wp2
      go_ret
      exact ⟨rfl,HB5.out⟩
     ·have hn:xx<T→m≤n2:=by have:=HS2.out;simpa using this
      by_cases hT:xx<T
      ·have f1:decide (T≤xx)=false:=decide_eq_false (by omega)
       have f2:decide (m≤n2)=true:=decide_eq_true (hn hT)
       go_wp2
       go_ret
       exact ⟨rfl,HB5.out⟩
      ·have f1:decide (T≤xx)=true:=decide_eq_true (by omega)
       go_wp2
       go_ret
       exact ⟨rfl,HB5.out⟩
    ·obtain rfl:=HS1.out rfl
     clear hm
     go_wp2
     go_ret
     exact ⟨rfl,HB4.out⟩
  ·go_wp2
   go_ret
   exact ⟨rfl,HB1.out⟩
 ·clear e2 e2'
  go_wp2
  go_ret
  exact ⟨rfl,HB1.out⟩
theorem walkCreepPairsK (KO:CrOutside) (KF:CrOf) (KM:CrMost) (cs:List Value) (j:Jb) (x:Int) (w:World) (h:(JobA w cs j∧j.t.length≤maxLen∧∀ p∈j.ls,p.length≤maxLen)∧(∀ i,-9223372036854775808≤j.n i∧j.n i≤9223372036854775807)∧j.f.c≤9223372036854775807∧j.f.r≤9223372036854775807) (hx:(Lit.int .i64 x).wf=true) (hg:GoodM w) :
  Calls Tryz.prog 4 #[.agg cs.toArray,.int .i64 x] w fun e w'=>e=.returned (.bool true)∧Below w.heap.size w w':=by
 obtain ⟨⟨h,-,-⟩,-,hf⟩:=h
 obtain ⟨a,cp,a',c',h12,h13,h14,h15,hI,hT⟩:=h.cells
 have hsm:=lvs_small j
 have key:isCr j x=true→(0≤x∧x<leavesS j∧leavesS j≤3200000)∧(lvsJ j:Int)=leavesS j:=fun hc=>by
  have hc':=hc
  unfold isCr at hc'
  rw [Bool.and_eq_true,has_iff] at hc'
  have:=lvs_leaves (show 0<lvsJ j by omega)
  omega
 refine cpairs_core cs (j.n 10) x (leavesS j) (crpO j x) (crpO j (x+1)) _ _ _ a a' _ cp _ c' _ _ (isCr j x) (isCr j (x+1)) _ w h.length (h.num (k:=10) (by decide)) h14 h15 rfl rfl rfl (fun hn=>?_) (fun hy=>⟨(key hy).1,rfl,rfl,rfl,fun hs=>?_,fun hs hm hT=>?_⟩) (fun w1 hb=>crAlive_any KO KF KM w1 (hg.below hb))
  (fun w1 hb=>spLeaves_any cs j w1 (h.up hb) hf (hg.below hb)) (fun w1 hb=>KF cs j x w1 (h.up hb) hf (hg.below hb) (int64_wf hx)) (fun hy w1 hb=>?_) (fun hy w1 hb=>?_)
 ·unfold crpO
  rw [hn]
  rfl
 ·simp at hs
  exact (crp_pair hy).2.2 hs
 ·simp at hs
  obtain ⟨k1,k2⟩:=key hy
  exact crp_next hs hy hm (by omega)
 ·obtain ⟨k1,k2⟩:=key hy
  have hk:=KF cs j (leavesS j-1-x) w1 (h.up hb) hf (hg.below hb) (by unfold Int64;omega)
  obtain ⟨p1,p2,-⟩:=crp_pair hy
  rw [k2] at p1 p2
  exact hk.mono fun e w' ⟨he,hb⟩=>⟨⟨_,_,he,fun hs=>by simp at hs;exact ⟨p2 hs,p1⟩⟩,hb⟩
 ·obtain ⟨k1,k2⟩:=key hy
  exact KF cs j (x+1) w1 (h.up hb) hf (hg.below hb) (by unfold Int64;omega)
end Go.Proofs.YtbbjileignefbaaGreatDoor
