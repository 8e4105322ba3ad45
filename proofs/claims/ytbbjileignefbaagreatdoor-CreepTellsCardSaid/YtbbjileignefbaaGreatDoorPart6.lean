/- Part 6 of the texts that the proofs of this seat share: UnfoldSmall, RoundHeld, UnfoldFlat. -/
import Derived.Test.YtbbjileignefbaaGreatDoorPart5
import Derived.Test.YtbbjileignefbaaGreatDoorPart1
import Derived.Deep.RegionHeld3
import Derived.BigRegion
import Derived.Test.YtbbjileignefbaaGreatDoorPart4
set_option linter.unusedVariables false
namespace Go.Proofs.YtbbjileignefbaaGreatDoor
open Go.RowKit
structure Cut where
 fx:Int
 fy:Int
 fc:Int
 fr:Int
 rx:Int
 ry:Int
 rc:Int
 rr:Int
 x:Int
 y:Int
def cutOf (d n c r:Int):Cut :=
 if d=1 then ⟨0,0,n,r,n,0,c-n,r,0,0⟩
 else if d=2 then ⟨c-n,0,n,r,0,0,c-n,r,c-2*n,0⟩
 else if d=3 then ⟨0,0,c,n,0,n,c,r-n,0,0⟩
 else ⟨0,r-n,c,n,0,0,c,r-n,0,r-2*n⟩
def PartedP (w:World) (c:Int) (L:List Ptr) (k:Cut) (e:Ending) (w':World):Prop :=
 ∃ F FA Q QA,e=.returned (.tuple #[.pointer (some ⟨F,0,none⟩),.pointer (some ⟨Q,0,none⟩),.agg #[.int .i64 k.x,.int .i64 k.y]])∧Gs w' F FA k.fc k.fr (wantPs c k.fx k.fy k.fc k.fr L)∧Gs w' Q QA k.rc k.rr (wantPs c k.rx k.ry k.rc k.rr L) ∧
  (w.heap.size≤F∧w.heap.size≤FA∧w.heap.size≤Q∧w.heap.size≤QA)∧Below w.heap.size w w'
theorem shPart_there {w:World} {G A:Nat} {c r:Int} {l:List Ptr} (h:Gs w G A c r l) (col row pc pr:Int) (h1:0≤col∧1≤pc∧col+pc≤c) (h2:0≤row∧1≤pr∧row+pr≤r) :
  Calls Tryz.prog 158 #[.pointer (some ⟨G,0,none⟩),.int .i64 col,.int .i64 row,.int .i64 pc,.int .i64 pr] w fun e w'=>∃ P PA,e=.returned (.pointer (some ⟨P,0,none⟩))∧Gs w' P PA pc pr (wantPs c col row pc pr l)∧w.heap.size≤P∧w.heap.size≤PA∧Below w.heap.size w w':=by
 have K:=shPart_yes h col row pc pr (by simp [fitB];omega) (by simp [fitB];omega)
 rwa [part_eqS c r col row pc pr l h.len h.c1 h.c64 h.r64 h1.1 h1.2.2 h2.1 h2.2.2 h1.2.1 h2.2.1] at K
theorem parted_fin {w w3:World} {c:Int} {L:List Ptr} {k:Cut} {F FA Q QA B:Nat} (a b:Value) (hF:Gs w3 F FA k.fc k.fr (wantPs c k.fx k.fy k.fc k.fr L)) (hQ:Gs w3 Q QA k.rc k.rr (wantPs c k.rx k.ry k.rc k.rr L)) (hB:w.heap.size≤B) (h1:B<F) (h2:B<FA) (h3:B<Q) (h4:B<QA) (hb:Below w.heap.size w w3) :
  PartedP w c L k (.returned (.tuple #[.pointer (some ⟨F,0,none⟩),.pointer (some ⟨Q,0,none⟩),.agg #[.int .i64 k.x,.int .i64 k.y]])) (((w3.setCell ⟨B,0,none⟩ a).setCell ⟨B,1,none⟩ b).drew):=by
 have hg1:w3.grownBy (w3.setCell ⟨B,0,none⟩ a) (some B):=grown_of_below (Below.refl _ _) B 0 a
 have hg2:(w3.setCell ⟨B,0,none⟩ a).grownBy (((w3.setCell ⟨B,0,none⟩ a).setCell ⟨B,1,none⟩ b).drew) (some B) :=
  have h:=grown_of_below (Below.refl (w3.setCell ⟨B,0,none⟩ a).heap.size (w3.setCell ⟨B,0,none⟩ a)) B 1 b
  ⟨h.os,h.tape,h.output,h.size,h.block⟩
 have ne:∀ x,B<x→some x≠some B:=fun x hx e=>by cases e;omega
 exact ⟨F,FA,Q,QA,rfl,(hF.kept hg1 (ne _ h1) (ne _ h2)).kept hg2 (ne _ h1) (ne _ h2),(hQ.kept hg1 (ne _ h3) (ne _ h4)).kept hg2 (ne _ h3) (ne _ h4),by omega,
  (hb.grown hg1 hb.size (fun k e=>by cases e;exact hB)).grown hg2 (Nat.le_trans hb.size hg1.size) (fun k e=>by cases e;exact hB)⟩
set_option maxRecDepth 100000 in
set_option maxHeartbeats 4000000 in
theorem parted_left {w:World} {G A:Nat} {c r:Int} {L:List Ptr} (h:Gs w G A c r L) (n:Int) (u:Bool) (hn:1≤n) (h2:2*n≤c) :
  Calls Tryz.prog 138 #[.pointer (some ⟨G,0,none⟩),.agg #[.int .i64 1,.int .i64 n,.bool u]] w (PartedP w c L (cutOf 1 n c r)):=by
 have hc:=h.c64;have hc1:=h.c1
 have hr:=h.r1;have hr1:=h.r64
 have KC:=fun (w':World) (hb:Below w.heap.size w w')=>shCols_any (h.up hb)
 have KR:=fun (w':World) (hb:Below w.heap.size w w')=>shRows_any (h.up hb)
 have KF:=fun (w':World) (hb:Below w.heap.size w w')=>shPart_there (h.up hb) (0) (0) (n) (r) (by omega) (by omega)
 have KQ:=fun (w':World) (hb:Below w.heap.size w w')=>shPart_there (h.up hb) (n) (0) (c-n) (r) (by omega) (by omega)
 have hcut:cutOf 1 n c r=⟨0,0,n,r,n,0,c-n,r,0,0⟩:=by simp [cutOf]
 rw [hcut]
 have HC:=Lib.hid KC;have HR:=Lib.hid KR;have HF:=Lib.hid KF;have HQ:=Lib.hid KQ
 have x0:=(Bx.new w 58 [.int .i64 1,.int .i64 n,.bool u]).alloc (.cells #[.int .i64 0,.int .i64 0] 23)
 have y0:=Bx.new (w.alloc (.cells #[.int .i64 1,.int .i64 n,.bool u] 58)) 23 [.int .i64 0,.int .i64 0]
 have hb1:Below w.heap.size w ((w.alloc (.cells #[.int .i64 1,.int .i64 n,.bool u] 58)).alloc (.cells #[.int .i64 0,.int .i64 0] 23)):=up_alloc (up_alloc (Below.refl _ _) _) _
 simp only [World.size_alloc] at y0
 have wn:IntKind.i64.wrap (c-n)=c-n:=IntWalk.i64_in _ (by omega)
 have wm:IntKind.i64.wrap (r-n)=r-n:=IntWalk.i64_in _ (by omega)
 have wk:IntKind.i64.wrap (2*n)=2*n:=IntWalk.i64_in _ (by omega)
 have wc:IntKind.i64.wrap (c-2*n)=c-2*n:=IntWalk.i64_in _ (by omega)
 have wr:IntKind.i64.wrap (r-2*n)=r-2*n:=IntWalk.i64_in _ (by omega)
 clear KC KR KF KQ h hcut
 go_enter Tryz.func138,Tryz.ntmps138
 go_wp2_with (first
  | (go_at_call 156;refine (HC.out _ hb1).mono ?_;rintro e w' ⟨rfl,rfl⟩)
  | (go_at_call 157;refine (HR.out _ hb1).mono ?_;rintro e w' ⟨rfl,rfl⟩))
 generalize ((w.alloc (.cells #[.int .i64 1,.int .i64 n,.bool u] 58)).alloc (.cells #[.int .i64 0,.int .i64 0] 23))=w1 at *
 have X0:=Lib.hid x0;have Y0:=Lib.hid y0;have HB1:=Lib.hid hb1
 have k1:=x0.cell 1 rfl
 clear x0 y0 hb1 HC HR
 go_region_held3 (fun w'=>w'.cell? ⟨w.heap.size,1,none⟩=some (.int .i64 n))
  (first | exact bl_cell hb3 (bl_cell hb2 k1) | exact bl_cell hb2 k1 | exact k1)
  (first
   | (go_at_call 158;with_reducible refine (HF.out _ (up_trans HB1.out (up_drew (Below.refl _ _)))).mono ?_;rintro e w2 ⟨F,FA,rfl,hF,hF1,hF2,hb2⟩)
   | (go_at_call 158;with_reducible refine (HQ.out _ (up_trans HB1.out (up_trans (up_drew (Below.refl _ _)) hb2))).mono ?_;rintro e w3 ⟨Q,QA,rfl,hQ,hQ1,hQ2,hb3⟩))
 have hb13:Below w1.heap.size w1 w3:=up_trans (up_trans (up_drew (Below.refl _ _)) hb2) hb3
 have hy:=Y0.out.up hb13
 have hx:=X0.out.up hb13
 have y0:=hy.cell 0 rfl;have y1:=hy.cell 1 rfl;have f0:=hy.free 0;have f1:=hy.free 1;have x1:=hx.cell 1 rfl
 have HB3:=Lib.hid (up_trans HB1.out hb13)
 have hs1:=HB1.out.size
 have hs2:w1.heap.size≤w2.heap.size:=hb2.size
 have HFF:=Lib.hid (hF.up hb3);have HQQ:=Lib.hid hQ
 have hYl:=Y0.out.lt
 simp only [show w1.drew.heap.size=w1.heap.size from rfl] at hF1 hF2
 clear hb2 hb3 hb13 hF hQ hx k1 HF HQ
 clear hy
 go_wp2
 go_region
 all_goals
  go_wp2
  exact bodyPost_ret (v:=.tuple #[.pointer (some ⟨F,0,none⟩),.pointer (some ⟨Q,0,none⟩),.agg #[.int .i64 0,.int .i64 0]]) (by simp [results,Tryz.results138,go_sem,y0,y1]) rfl
   (parted_fin (k:=⟨0,0,n,r,n,0,c-n,r,0,0⟩) _ _ HFF.out HQQ.out (by omega) (by omega) (by omega) (by omega) (by omega) HB3.out)
set_option maxRecDepth 100000 in
set_option maxHeartbeats 4000000 in
theorem parted_right {w:World} {G A:Nat} {c r:Int} {L:List Ptr} (h:Gs w G A c r L) (n:Int) (u:Bool) (hn:1≤n) (h2:2*n≤c) :
  Calls Tryz.prog 138 #[.pointer (some ⟨G,0,none⟩),.agg #[.int .i64 2,.int .i64 n,.bool u]] w (PartedP w c L (cutOf 2 n c r)):=by
 have hc:=h.c64;have hc1:=h.c1
 have hr:=h.r1;have hr1:=h.r64
 have KC:=fun (w':World) (hb:Below w.heap.size w w')=>shCols_any (h.up hb)
 have KR:=fun (w':World) (hb:Below w.heap.size w w')=>shRows_any (h.up hb)
 have KF:=fun (w':World) (hb:Below w.heap.size w w')=>shPart_there (h.up hb) (c-n) (0) (n) (r) (by omega) (by omega)
 have KQ:=fun (w':World) (hb:Below w.heap.size w w')=>shPart_there (h.up hb) (0) (0) (c-n) (r) (by omega) (by omega)
 have hcut:cutOf 2 n c r=⟨c-n,0,n,r,0,0,c-n,r,c-2*n,0⟩:=by simp [cutOf]
 rw [hcut]
 have HC:=Lib.hid KC;have HR:=Lib.hid KR;have HF:=Lib.hid KF;have HQ:=Lib.hid KQ
 have x0:=(Bx.new w 58 [.int .i64 2,.int .i64 n,.bool u]).alloc (.cells #[.int .i64 0,.int .i64 0] 23)
 have y0:=Bx.new (w.alloc (.cells #[.int .i64 2,.int .i64 n,.bool u] 58)) 23 [.int .i64 0,.int .i64 0]
 have hb1:Below w.heap.size w ((w.alloc (.cells #[.int .i64 2,.int .i64 n,.bool u] 58)).alloc (.cells #[.int .i64 0,.int .i64 0] 23)):=up_alloc (up_alloc (Below.refl _ _) _) _
 simp only [World.size_alloc] at y0
 have wn:IntKind.i64.wrap (c-n)=c-n:=IntWalk.i64_in _ (by omega)
 have wm:IntKind.i64.wrap (r-n)=r-n:=IntWalk.i64_in _ (by omega)
 have wk:IntKind.i64.wrap (2*n)=2*n:=IntWalk.i64_in _ (by omega)
 have wc:IntKind.i64.wrap (c-2*n)=c-2*n:=IntWalk.i64_in _ (by omega)
 have wr:IntKind.i64.wrap (r-2*n)=r-2*n:=IntWalk.i64_in _ (by omega)
 clear KC KR KF KQ h hcut
 go_enter Tryz.func138,Tryz.ntmps138
 go_wp2_with (first
  | (go_at_call 156;refine (HC.out _ hb1).mono ?_;rintro e w' ⟨rfl,rfl⟩)
  | (go_at_call 157;refine (HR.out _ hb1).mono ?_;rintro e w' ⟨rfl,rfl⟩))
 generalize ((w.alloc (.cells #[.int .i64 2,.int .i64 n,.bool u] 58)).alloc (.cells #[.int .i64 0,.int .i64 0] 23))=w1 at *
 have X0:=Lib.hid x0;have Y0:=Lib.hid y0;have HB1:=Lib.hid hb1
 have k1:=x0.cell 1 rfl
 clear x0 y0 hb1 HC HR
 go_region_held3 (fun w'=>w'.cell? ⟨w.heap.size,1,none⟩=some (.int .i64 n))
  (first | exact bl_cell hb3 (bl_cell hb2 k1) | exact bl_cell hb2 k1 | exact k1)
  (first
   | (go_at_call 158;with_reducible refine (HF.out _ (up_trans HB1.out (up_drew (Below.refl _ _)))).mono ?_;rintro e w2 ⟨F,FA,rfl,hF,hF1,hF2,hb2⟩)
   | (go_at_call 158;with_reducible refine (HQ.out _ (up_trans HB1.out (up_trans (up_drew (Below.refl _ _)) hb2))).mono ?_;rintro e w3 ⟨Q,QA,rfl,hQ,hQ1,hQ2,hb3⟩))
 have hb13:Below w1.heap.size w1 w3:=up_trans (up_trans (up_drew (Below.refl _ _)) hb2) hb3
 have hy:=Y0.out.up hb13
 have hx:=X0.out.up hb13
 have y0:=hy.cell 0 rfl;have y1:=hy.cell 1 rfl;have f0:=hy.free 0;have f1:=hy.free 1;have x1:=hx.cell 1 rfl
 have HB3:=Lib.hid (up_trans HB1.out hb13)
 have hs1:=HB1.out.size
 have hs2:w1.heap.size≤w2.heap.size:=hb2.size
 have HFF:=Lib.hid (hF.up hb3);have HQQ:=Lib.hid hQ
 have hYl:=Y0.out.lt
 simp only [show w1.drew.heap.size=w1.heap.size from rfl] at hF1 hF2
 clear hb2 hb3 hb13 hF hQ hx k1 HF HQ
 go_wp2
 have hz:=hy.set 0 (.int .i64 (c-2*n))
 simp only [List.set_cons_zero] at hz
 have hsz:(w3.setCell ⟨w.heap.size+1,0,none⟩ (.int .i64 (c-2*n))).heap.size=w3.heap.size:=by simp [World.setCell]
 have hg1:w3.grownBy (w3.setCell ⟨w.heap.size+1,0,none⟩ (.int .i64 (c-2*n))) (some (w.heap.size+1)):=grown_of_below (Below.refl _ _) _ 0 _
 have ne:∀ x,w.heap.size+1<x→some x≠some (w.heap.size+1):=fun x hx e=>by cases e;omega
 have hF4:=Lib.hid (HFF.out.kept hg1 (ne _ (by omega)) (ne _ (by omega)))
 have hQ4:=Lib.hid (HQQ.out.kept hg1 (ne _ (by omega)) (ne _ (by omega)))
 have HB4:=Lib.hid (HB3.out.grown hg1 HB3.out.size (fun k e=>by cases e;omega))
 clear y0 y1 f0 f1 x1 hy hg1 ne HFF HQQ HB3 hsz
 generalize w3.setCell ⟨w.heap.size+1,0,none⟩ (.int .i64 (c-2*n))=w4 at *
 have y0:=hz.cell 0 rfl;have y1:=hz.cell 1 rfl;have f0:=hz.free 0;have f1:=hz.free 1
 clear hz
 go_region
 all_goals
  go_wp2
  exact bodyPost_ret (v:=.tuple #[.pointer (some ⟨F,0,none⟩),.pointer (some ⟨Q,0,none⟩),.agg #[.int .i64 (c-2*n),.int .i64 (0)]]) (by simp [results,Tryz.results138,go_sem,y0,y1]) rfl
   (parted_fin (k:=⟨c-n,0,n,r,0,0,c-n,r,c-2*n,0⟩) _ _ hF4.out hQ4.out (by omega) (by omega) (by omega) (by omega) (by omega) HB4.out)
set_option maxRecDepth 100000 in
set_option maxHeartbeats 4000000 in
theorem parted_foot {w:World} {G A:Nat} {c r:Int} {L:List Ptr} (h:Gs w G A c r L) (n:Int) (u:Bool) (hn:1≤n) (h2:2*n≤r) :
  Calls Tryz.prog 138 #[.pointer (some ⟨G,0,none⟩),.agg #[.int .i64 3,.int .i64 n,.bool u]] w (PartedP w c L (cutOf 3 n c r)):=by
 have hc:=h.c64;have hc1:=h.c1
 have hr:=h.r1;have hr1:=h.r64
 have KC:=fun (w':World) (hb:Below w.heap.size w w')=>shCols_any (h.up hb)
 have KR:=fun (w':World) (hb:Below w.heap.size w w')=>shRows_any (h.up hb)
 have KF:=fun (w':World) (hb:Below w.heap.size w w')=>shPart_there (h.up hb) (0) (0) (c) (n) (by omega) (by omega)
 have KQ:=fun (w':World) (hb:Below w.heap.size w w')=>shPart_there (h.up hb) (0) (n) (c) (r-n) (by omega) (by omega)
 have hcut:cutOf 3 n c r=⟨0,0,c,n,0,n,c,r-n,0,0⟩:=by simp [cutOf]
 rw [hcut]
 have HC:=Lib.hid KC;have HR:=Lib.hid KR;have HF:=Lib.hid KF;have HQ:=Lib.hid KQ
 have x0:=(Bx.new w 58 [.int .i64 3,.int .i64 n,.bool u]).alloc (.cells #[.int .i64 0,.int .i64 0] 23)
 have y0:=Bx.new (w.alloc (.cells #[.int .i64 3,.int .i64 n,.bool u] 58)) 23 [.int .i64 0,.int .i64 0]
 have hb1:Below w.heap.size w ((w.alloc (.cells #[.int .i64 3,.int .i64 n,.bool u] 58)).alloc (.cells #[.int .i64 0,.int .i64 0] 23)):=up_alloc (up_alloc (Below.refl _ _) _) _
 simp only [World.size_alloc] at y0
 have wn:IntKind.i64.wrap (c-n)=c-n:=IntWalk.i64_in _ (by omega)
 have wm:IntKind.i64.wrap (r-n)=r-n:=IntWalk.i64_in _ (by omega)
 have wk:IntKind.i64.wrap (2*n)=2*n:=IntWalk.i64_in _ (by omega)
 have wc:IntKind.i64.wrap (c-2*n)=c-2*n:=IntWalk.i64_in _ (by omega)
 have wr:IntKind.i64.wrap (r-2*n)=r-2*n:=IntWalk.i64_in _ (by omega)
 clear KC KR KF KQ h hcut
 go_enter Tryz.func138,Tryz.ntmps138
 go_wp2_with (first
  | (go_at_call 156;refine (HC.out _ hb1).mono ?_;rintro e w' ⟨rfl,rfl⟩)
  | (go_at_call 157;refine (HR.out _ hb1).mono ?_;rintro e w' ⟨rfl,rfl⟩))
 generalize ((w.alloc (.cells #[.int .i64 3,.int .i64 n,.bool u] 58)).alloc (.cells #[.int .i64 0,.int .i64 0] 23))=w1 at *
 have X0:=Lib.hid x0;have Y0:=Lib.hid y0;have HB1:=Lib.hid hb1
 have k1:=x0.cell 1 rfl
 clear x0 y0 hb1 HC HR
 go_region_held3 (fun w'=>w'.cell? ⟨w.heap.size,1,none⟩=some (.int .i64 n))
  (first | exact bl_cell hb3 (bl_cell hb2 k1) | exact bl_cell hb2 k1 | exact k1)
  (first
   | (go_at_call 158;with_reducible refine (HF.out _ (up_trans HB1.out (up_drew (Below.refl _ _)))).mono ?_;rintro e w2 ⟨F,FA,rfl,hF,hF1,hF2,hb2⟩)
   | (go_at_call 158;with_reducible refine (HQ.out _ (up_trans HB1.out (up_trans (up_drew (Below.refl _ _)) hb2))).mono ?_;rintro e w3 ⟨Q,QA,rfl,hQ,hQ1,hQ2,hb3⟩))
 have hb13:Below w1.heap.size w1 w3:=up_trans (up_trans (up_drew (Below.refl _ _)) hb2) hb3
 have hy:=Y0.out.up hb13
 have hx:=X0.out.up hb13
 have y0:=hy.cell 0 rfl;have y1:=hy.cell 1 rfl;have f0:=hy.free 0;have f1:=hy.free 1;have x1:=hx.cell 1 rfl
 have HB3:=Lib.hid (up_trans HB1.out hb13)
 have hs1:=HB1.out.size
 have hs2:w1.heap.size≤w2.heap.size:=hb2.size
 have HFF:=Lib.hid (hF.up hb3);have HQQ:=Lib.hid hQ
 have hYl:=Y0.out.lt
 simp only [show w1.drew.heap.size=w1.heap.size from rfl] at hF1 hF2
 clear hb2 hb3 hb13 hF hQ hx k1 HF HQ
 clear hy
 go_wp2
 go_region
 all_goals
  go_wp2
  exact bodyPost_ret (v:=.tuple #[.pointer (some ⟨F,0,none⟩),.pointer (some ⟨Q,0,none⟩),.agg #[.int .i64 0,.int .i64 0]]) (by simp [results,Tryz.results138,go_sem,y0,y1]) rfl
   (parted_fin (k:=⟨0,0,c,n,0,n,c,r-n,0,0⟩) _ _ HFF.out HQQ.out (by omega) (by omega) (by omega) (by omega) (by omega) HB3.out)
set_option maxRecDepth 100000 in
set_option maxHeartbeats 4000000 in
theorem parted_head {w:World} {G A:Nat} {c r:Int} {L:List Ptr} (h:Gs w G A c r L) (n:Int) (u:Bool) (hn:1≤n) (h2:2*n≤r) :
  Calls Tryz.prog 138 #[.pointer (some ⟨G,0,none⟩),.agg #[.int .i64 4,.int .i64 n,.bool u]] w (PartedP w c L (cutOf 4 n c r)):=by
 have hc:=h.c64;have hc1:=h.c1
 have hr:=h.r1;have hr1:=h.r64
 have KC:=fun (w':World) (hb:Below w.heap.size w w')=>shCols_any (h.up hb)
 have KR:=fun (w':World) (hb:Below w.heap.size w w')=>shRows_any (h.up hb)
 have KF:=fun (w':World) (hb:Below w.heap.size w w')=>shPart_there (h.up hb) (0) (r-n) (c) (n) (by omega) (by omega)
 have KQ:=fun (w':World) (hb:Below w.heap.size w w')=>shPart_there (h.up hb) (0) (0) (c) (r-n) (by omega) (by omega)
 have hcut:cutOf 4 n c r=⟨0,r-n,c,n,0,0,c,r-n,0,r-2*n⟩:=by simp [cutOf]
 rw [hcut]
 have HC:=Lib.hid KC;have HR:=Lib.hid KR;have HF:=Lib.hid KF;have HQ:=Lib.hid KQ
 have x0:=(Bx.new w 58 [.int .i64 4,.int .i64 n,.bool u]).alloc (.cells #[.int .i64 0,.int .i64 0] 23)
 have y0:=Bx.new (w.alloc (.cells #[.int .i64 4,.int .i64 n,.bool u] 58)) 23 [.int .i64 0,.int .i64 0]
 have hb1:Below w.heap.size w ((w.alloc (.cells #[.int .i64 4,.int .i64 n,.bool u] 58)).alloc (.cells #[.int .i64 0,.int .i64 0] 23)):=up_alloc (up_alloc (Below.refl _ _) _) _
 simp only [World.size_alloc] at y0
 have wn:IntKind.i64.wrap (c-n)=c-n:=IntWalk.i64_in _ (by omega)
 have wm:IntKind.i64.wrap (r-n)=r-n:=IntWalk.i64_in _ (by omega)
 have wk:IntKind.i64.wrap (2*n)=2*n:=IntWalk.i64_in _ (by omega)
 have wc:IntKind.i64.wrap (c-2*n)=c-2*n:=IntWalk.i64_in _ (by omega)
 have wr:IntKind.i64.wrap (r-2*n)=r-2*n:=IntWalk.i64_in _ (by omega)
 clear KC KR KF KQ h hcut
 go_enter Tryz.func138,Tryz.ntmps138
 go_wp2_with (first
  | (go_at_call 156;refine (HC.out _ hb1).mono ?_;rintro e w' ⟨rfl,rfl⟩)
  | (go_at_call 157;refine (HR.out _ hb1).mono ?_;rintro e w' ⟨rfl,rfl⟩))
 generalize ((w.alloc (.cells #[.int .i64 4,.int .i64 n,.bool u] 58)).alloc (.cells #[.int .i64 0,.int .i64 0] 23))=w1 at *
 have X0:=Lib.hid x0;have Y0:=Lib.hid y0;have HB1:=Lib.hid hb1
 have k1:=x0.cell 1 rfl
 clear x0 y0 hb1 HC HR
 go_region_held3 (fun w'=>w'.cell? ⟨w.heap.size,1,none⟩=some (.int .i64 n))
  (first | exact bl_cell hb3 (bl_cell hb2 k1) | exact bl_cell hb2 k1 | exact k1)
  (first
   | (go_at_call 158;with_reducible refine (HF.out _ (up_trans HB1.out (up_drew (Below.refl _ _)))).mono ?_;rintro e w2 ⟨F,FA,rfl,hF,hF1,hF2,hb2⟩)
   | (go_at_call 158;with_reducible refine (HQ.out _ (up_trans HB1.out (up_trans (up_drew (Below.refl _ _)) hb2))).mono ?_;rintro e w3 ⟨Q,QA,rfl,hQ,hQ1,hQ2,hb3⟩))
 have hb13:Below w1.heap.size w1 w3:=up_trans (up_trans (up_drew (Below.refl _ _)) hb2) hb3
 have hy:=Y0.out.up hb13
 have hx:=X0.out.up hb13
 have y0:=hy.cell 0 rfl;have y1:=hy.cell 1 rfl;have f0:=hy.free 0;have f1:=hy.free 1;have x1:=hx.cell 1 rfl
 have HB3:=Lib.hid (up_trans HB1.out hb13)
 have hs1:=HB1.out.size
 have hs2:w1.heap.size≤w2.heap.size:=hb2.size
 have HFF:=Lib.hid (hF.up hb3);have HQQ:=Lib.hid hQ
 have hYl:=Y0.out.lt
 simp only [show w1.drew.heap.size=w1.heap.size from rfl] at hF1 hF2
 clear hb2 hb3 hb13 hF hQ hx k1 HF HQ
 go_wp2
 have hz:=hy.set 1 (.int .i64 (r-2*n))
 simp only [List.set_cons_zero,List.set_cons_succ] at hz
 have hsz:(w3.setCell ⟨w.heap.size+1,1,none⟩ (.int .i64 (r-2*n))).heap.size=w3.heap.size:=by simp [World.setCell]
 have hg1:w3.grownBy (w3.setCell ⟨w.heap.size+1,1,none⟩ (.int .i64 (r-2*n))) (some (w.heap.size+1)):=grown_of_below (Below.refl _ _) _ 1 _
 have ne:∀ x,w.heap.size+1<x→some x≠some (w.heap.size+1):=fun x hx e=>by cases e;omega
 have hF4:=Lib.hid (HFF.out.kept hg1 (ne _ (by omega)) (ne _ (by omega)))
 have hQ4:=Lib.hid (HQQ.out.kept hg1 (ne _ (by omega)) (ne _ (by omega)))
 have HB4:=Lib.hid (HB3.out.grown hg1 HB3.out.size (fun k e=>by cases e;omega))
 clear y0 y1 f0 f1 x1 hy hg1 ne HFF HQQ HB3 hsz
 generalize w3.setCell ⟨w.heap.size+1,1,none⟩ (.int .i64 (r-2*n))=w4 at *
 have y0:=hz.cell 0 rfl;have y1:=hz.cell 1 rfl;have f0:=hz.free 0;have f1:=hz.free 1
 clear hz
 go_region
 all_goals
  go_wp2
  exact bodyPost_ret (v:=.tuple #[.pointer (some ⟨F,0,none⟩),.pointer (some ⟨Q,0,none⟩),.agg #[.int .i64 (0),.int .i64 (r-2*n)]]) (by simp [results,Tryz.results138,go_sem,y0,y1]) rfl
   (parted_fin (k:=⟨0,r-n,c,n,0,0,c,r-n,0,r-2*n⟩) _ _ hF4.out hQ4.out (by omega) (by omega) (by omega) (by omega) (by omega) HB4.out)
theorem round_held {m n:Nat} {P:Program} {id:Nat} {Q:Exit→Act→World→Prop} {a:Act} {w:World} {l:List Oper} (S:World→Prop) (hm:P.follows .mixedOrders=true) (hnd:noDefer l=true) (hL:¬ LetsOut Q) (hS:S w.drew)
  (h:S w.drew→wpAnyH P .any l.toArray Q S l.toArray.size (Array.replicate l.toArray.size false) a w.drew):(Code.region id l.toArray true).wpIn (Fence.wide.inRound m) n P Q a w :=
 wpIn_region_any hm (wpAnyIn_of_any (noDefer_spec hnd) hL _ _ _ _ (wpAny_of_held _ _ _ _ (h hS)))
theorem held_take {P:Program} {md:Region.Mode} {ops:Array Oper} {Q:Exit→Act→World→Prop} {S:World→Prop} (i:Nat) (d:Option Tmp) (v:Value) {oi:Oper} {fuel:Nat} {listed:Array Bool} {a:Act} {w:World} (hi:ops[i]?=some oi) (hd:oi.dst=d)
  (hs:Region.noSelect ops=true) (hf:Region.free md ops listed i=true) (hr:(Region.ready md ops listed).contains i=true)
  (hQ:∀ c a w,Q (.panic c) (a.put d v) w→Q (.panic c) a w) (hy:YieldsIf P ops S oi v a) (hS:S w)
  (h:wpAnyH P md ops Q S fuel (listed.setIfInBounds i true) (a.put d v) w):wpAnyH P md ops Q S (fuel+1) listed a w:=by
 subst hd
 exact wpAnyH_take hi hs hf hr hQ hy hS h
theorem held_next {P:Program} {md:Region.Mode} {ops:Array Oper} {Q:Exit→Act→World→Prop} {S:World→Prop} (i:Nat) {o:Oper} {fuel:Nat} {listed:Array Bool} {a:Act} {w:World} (hr:Region.ready md ops listed=[i]) (ho:ops[i]?=some o)
  (h:∀ K':Act→World→Prop,Shut (∀ a w,S w→(S w→wpAnyH P md ops Q S fuel (listed.setIfInBounds i true) a w)→K' a w)→if Region.wanted o (yielded ops a.tmps)=true then Oper.wp P o a w K' Q else K' (a.put o.dst undef) w):wpAnyH P md ops Q S (fuel+1) listed a w :=
 wpAnyH_ready hr (by simp) (AllReadyH.cons ho h AllReadyH.nil)
end Go.Proofs.YtbbjileignefbaaGreatDoor
namespace Go.Proofs.YtbbjileignefbaaGreatDoor
open Go.RowKit Go.Shelf
attribute [local go_sem] Oper.semAt_some
def ptrD (D:Nat):Ptr:=some ⟨D,0,none⟩
def laidD (c r:Int) (xs:List (((Int×Int)×Ptr)×Nat)):List Ptr:=xs.foldl (fun L x=>setS c r L x.1.1.1 x.1.1.2 (ptrD x.2)) (List.replicate (c*r).toNat none)
theorem laidD_snoc (c r:Int) (xs:List (((Int×Int)×Ptr)×Nat)) (x:((Int×Int)×Ptr)×Nat):laidD c r (xs++[x])=setS c r (laidD c r xs) x.1.1.1 x.1.1.2 (ptrD x.2):=by simp [laidD]
theorem zip_snoc {α β:Type} {l:List α} {m:List β} (h:l.length=m.length) (a:α) (b:β):(l++[a]).zip (m++[b])=l.zip m++[(a,b)]:=by rw [List.zip_append h];rfl
def FlatI (base G A:Nat) (c r:Int) (pre:List ((Int×Int)×Ptr)) (W:World):Prop :=
 ∃ (ds:List Nat) (R:Nat→Nat) (S:Nat→List Pc),ds.length=pre.length∧ds.Nodup∧Decks W base (·∈ds) R S∧(∀ (k:Nat) D,ds[k]?=some D→S D=[⟨(k:Int),false,false⟩])∧Gs W G A c r (laidD c r (pre.zip ds)) ∧
  (∀ D∈ds,D≠G∧D≠A∧R D≠G∧R D≠A)
theorem flatI_own (base G A:Nat) (c r:Int):Own (FlatI base G A c r):=by
 rintro pre X Y row ⟨ds,R,S,h1,h2,h3,h4,h5,h6⟩ hg hr
 exact ⟨ds,R,S,h1,h2,h3.kept hg hr,h4,gs_own G A c r (fun _:Unit=>_) () X Y row h5 hg hr,h6⟩
theorem FlatI.up {base G A:Nat} {c r:Int} {pre:List ((Int×Int)×Ptr)} {W W':World} (h:FlatI base G A c r pre W) (hb:Below W.heap.size W W'):FlatI base G A c r pre W':=by
 obtain ⟨ds,R,S,h1,h2,h3,h4,h5,h6⟩:=h
 exact ⟨ds,R,S,h1,h2,h3.up hb,h4,h5.up hb,h6⟩
theorem FlatI.far {base G A:Nat} {c r:Int} {pre:List ((Int×Int)×Ptr)} {W:World} (h:FlatI base G A c r pre W) {B o:Nat} {v u:Value} {t:TypeId} (hB:Boxed W B t u) (ht:t≠141∧t≠159) (hG:B≠G∧B≠A):FlatI base G A c r pre (W.setCell ⟨B,o,none⟩ v):=by
 obtain ⟨ds,R,S,h1,h2,h3,h4,h5,h6⟩:=h
 have e:∀ k,k≠B→(W.setCell ⟨B,o,none⟩ v).heap[k]?=W.heap[k]?:=fun k hk=>Below.heap_setCell _ _ _ _ hk
 refine ⟨ds,R,S,h1,h2,⟨fun D hD=>?_,h3.ne,h3.far⟩,h4,h5.same (e _ (Ne.symm hG.1)) (e _ (Ne.symm hG.2)),h6⟩
 have k:=h3.dk D hD
 obtain ⟨x,hx⟩:=k.cellsD
 obtain ⟨y,hy⟩:=k.cellsR
 refine k.kept (e _ ?_) (e _ ?_)
 ·rintro rfl
  rw [show W.heap[D]?=_ from hB] at hx
  injection hx with hx
  injection hx with _ hx
  exact ht.2 hx
 ·intro he
  rw [he,show W.heap[B]?=_ from hB] at hy
  injection hy with hy
  injection hy with _ hy
  exact ht.1 hy
theorem FlatI.more {base G A D R0:Nat} {c r:Int} {pre:List ((Int×Int)×Ptr)} {W W1 W2:World} {x:(Int×Int)×Ptr} {ds:List Nat} {R:Nat→Nat} {S:Nat→List Pc} (h1:ds.length=pre.length) (h2:ds.Nodup) (h3:Decks W base (·∈ds) R S) (h4:∀ (k:Nat) D,ds[k]?=some D→S D=[⟨(k:Int),false,false⟩]) (h5:Gs W G A c r (laidD c r (pre.zip ds)))
  (h6:∀ D∈ds,D≠G∧D≠A∧R D≠G∧R D≠A) (hbase:base≤W.heap.size) (hb:Below W.heap.size W W1) (hD:Dp W1 W.heap.size D R0 [⟨(pre.length:Int),false,false⟩])
  (hG:Gs W2 G A c r (setS c r (laidD c r (pre.zip ds)) x.1.1 x.1.2 (ptrD D))) (hg:W1.grownBy W2 (some A)):FlatI base G A c r (pre++[x]) W2:=by
 have lt:∀ E∈ds,E<W.heap.size∧R E<W.heap.size:=fun E hE=>⟨(h3.dk E hE).ltD,(h3.dk E hE).ltR.2⟩
 have hDl:=hD.low
 have hRl:=hD.ltR.1
 have nD:D∉ds:=fun hE=>by have:=(lt D hE).1;omega
 have k1:=h3.up hb
 have ltG:=h5.ltG
 have ltA:=h5.ltA
 have keep:∀ {D R:Nat} {l:List Pc} {b:Nat},Dp W1 b D R l→D≠A→R≠A→Dp W2 b D R l:=fun k n1 n2=>k.kept (hg.block _ k.ltD (by simpa using n1)) (hg.block _ k.ltR.2 (by simpa using n2))
 refine ⟨ds++[D],fun E=>if E=D then R0 else R E,fun E=>if E=D then [⟨(pre.length:Int),false,false⟩] else S E,by simp [h1],?_,⟨?_,?_,?_⟩,?_,?_,?_⟩
 ·rw [List.nodup_append]
  exact ⟨h2,by simp,fun a ha b hb e=>nD (by simp at hb;rw [←hb,←e];exact ha)⟩
 ·intro E hE
  by_cases e:E=D
  ·subst e
   simp only [if_true]
   exact keep (hD.base base (Nat.le_trans hbase hDl) (Nat.le_trans hbase hRl)) (by omega) (by omega)
  ·simp only [if_neg e]
   have hE':E∈ds:=by simpa [e] using hE
   exact keep (k1.dk E hE') (h6 E hE').2.1 (h6 E hE').2.2.2
 ·intro E hE
  by_cases e:E=D
  ·simp [e]
  ·simp only [if_neg e];exact h3.ne E (by simpa [e] using hE)
 ·intro E E' hE hE' hne
  by_cases e:E=D
  ·subst e
   have e':E'≠E:=fun h=>hne h.symm
   have:=(lt E' (by simpa [e'] using hE')).2
   simp only [if_true,if_neg e']
   omega
  ·by_cases e':E'=D
   ·subst e'
    have:=(lt E (by simpa [e] using hE)).2
    simp only [if_true,if_neg e]
    omega
   ·simp only [if_neg e,if_neg e']
    exact h3.far E E' (by simpa [e] using hE) (by simpa [e'] using hE') hne
 ·intro k E hk
  by_cases hlt:k<ds.length
  ·rw [List.getElem?_append_left hlt] at hk
   have hE:E∈ds:=List.mem_of_getElem? hk
   have e:E≠D:=fun h=>nD (h ▸ hE)
   simp only [if_neg e]
   exact h4 k E hk
  ·rw [List.getElem?_append_right (by omega),List.getElem?_singleton] at hk
   split at hk
   ·obtain rfl:D=E:=by simpa using hk
    simp only [if_true]
    congr 2
    omega
   ·cases hk
 ·rw [zip_snoc h1.symm,laidD_snoc]
  exact hG
 ·intro E hE
  by_cases e:E=D
  ·subst e
   simp only [if_true]
   omega
  ·simp only [if_neg e];exact h6 E (by simpa [e] using hE)
theorem keepS_box {O:World→Nat→Prop} {W:World} {B o:Nat} {t:TypeId} {v u:Value} (hB:Boxed W B t v) (ht:t≠138) (hO:∀ b,O (W.setCell ⟨B,o,none⟩ u) b→O W b):KeepS O W (W.setCell ⟨B,o,none⟩ u) :=
 ⟨by simp [World.setCell],fun b _ ho=>hO b ho,fun b cur fr _ hb=>by
  refine (Below.heap_setCell _ _ _ _ (fun e=>?_)).trans hb
  subst e
  rw [show W.heap[b]?=_ from hB] at hb
  injection hb with h1
  injection h1 with _ h2
  exact ht h2⟩
theorem set_end {A:List Ptr} {k m:Nat} (h:A.length=k) (hk:k<m) (v:Ptr):(A++List.replicate (m-k) none).set k v=(A++[v])++List.replicate (m-(k+1)) none:=by
 rw [List.set_append_right _ _ (by omega),h,Nat.sub_self,show m-k=(m-(k+1))+1 by omega,List.replicate_succ,List.set_cons_zero,List.append_assoc]
 rfl
theorem laid_all (c r:Int) (hc:1≤c∧c≤64) (hr:1≤r∧r≤64) (L0:List Ptr) (ds:List Nat) (hd:ds.length=(c*r).toNat):∀ k,k≤ds.length→laidD c r ((ptS c L0 k).zip (ds.take k))=(ds.take k).map ptrD++List.replicate ((c*r).toNat-k) none:=by
 intro k
 induction k with
 | zero=>intro _;simp [ptS,laidD]
 | succ k ih =>
  intro hk
  have hp:0≤c*r:=Int.mul_nonneg (by omega) (by omega)
  obtain ⟨x,y,e1,e2,b0,b1,b2,b3,b4⟩:=split_place k c r hc.1 (by omega)
  have hl:((ds.take k).map ptrD).length=k:=by simp;omega
  rw [ptS_succ,List.take_succ_eq_append_getElem (by omega),zip_snoc (by rw [ptS_length];simp;omega),laidD_snoc,ih (by omega),e1,e2]
  simp only
  unfold setS
  rw [if_pos (by simp [hasB];omega),show at1 c x y=k by unfold at1;omega,set_end hl (by omega),List.map_append]
  rfl
def FlatP (w:World) (c r:Int) (e:Ending) (w':World):Prop :=
 ∃ (G A:Nat) (ds:List Nat) (R:Nat→Nat) (S:Nat→List Pc),e=.returned (.pointer (some ⟨G,0,none⟩))∧(ds.length:Int)=c*r∧ds.Nodup∧Decks w' w.heap.size (·∈ds) R S∧(∀ (k:Nat) D,ds[k]?=some D→S D=[⟨(k:Int),false,false⟩])∧Gs w' G A c r (ds.map ptrD) ∧
  w.heap.size≤G∧w.heap.size≤A∧Below w.heap.size w w'
set_option maxRecDepth 100000 in
set_option maxHeartbeats 4000000 in
theorem flat_any (c r:Int) (hc:1≤c∧c≤64) (hr:1≤r∧r≤64) (w:World) :
  Calls Tryz.prog 119 #[.int .i64 c,.int .i64 r] w (FlatP w c r):=by
 have i1:inB c 1 64=true:=by simp [inB];omega
 have i2:inB r 1 64=true:=by simp [inB];omega
 have HN:=Lib.hid (shNew_yes c r i1 i2 w)
 clear i1 i2
 refine (callsIn_wide (n:=3)).1 ?_
 refine callsIn_of_wp_marks Tryz.func119 rfl trivial ?_ rfl
 simp only [Tryz.ntmps119,List.size_toArray,List.length_cons,List.length_nil,Nat.reduceAdd,Nat.reduceSub,Array.replicate_succ,Array.replicate_zero,List.push_toArray,List.append_toArray,List.nil_append,List.cons_append]
 gi_wp2_with (first
  | (refine ⟨trivial,?_⟩;gi_at_call 133;refine (callsIn_wide.2 HN.out).mono ?_;rintro e w1 ⟨rfl,hP,hb1⟩;have HP:=Lib.hid hP;have HB1:=Lib.hid hb1;clear hP hb1)
  | (refine ⟨trivial,?_⟩;gi_at_call 134;refine (callsIn_wide.2 (shAll_any _ _)).mono ?_;rintro e w4 ⟨rfl,rfl⟩))
 obtain ⟨W0,hW0⟩:∃ W0,(((w1.alloc (.cells #[.pointer (some ⟨w.heap.size+1,0,none⟩)] 152)).alloc (.cells #[.int .i64 0] 3)).alloc (.cells #[.pointer (some ⟨w.heap.size+1,0,none⟩)] 152))=W0:=⟨_,rfl⟩
 have up1:Below w1.heap.size w1 W0:=by rw [←hW0];exact up_alloc (up_alloc (up_alloc (Below.refl _ _) _) _) _
 have upw:Below w.heap.size w W0:=up_trans HB1.out up1
 have y5:Boxed W0 w1.heap.size 152 (.pointer (some ⟨w.heap.size+1,0,none⟩)):=by rw [←hW0];exact ((Boxed.new w1 _ _).alloc _).alloc _
 have y6:Boxed W0 (w1.heap.size+1) 3 (.int .i64 0):=by
  rw [←hW0]
  have:=(Boxed.new (w1.alloc (.cells #[.pointer (some ⟨w.heap.size+1,0,none⟩)] 152)) 3 (.int .i64 0)).alloc (.cells #[.pointer (some ⟨w.heap.size+1,0,none⟩)] 152)
  simpa only [World.size_alloc] using this
 have yG:W0.cell? ⟨w1.heap.size+1+1,0,none⟩=some (.pointer (some ⟨w.heap.size+1,0,none⟩)):=by rw [←hW0];simp [go_sem]
 have gP:=HP.out.up up1
 have hsz:W0.heap.size=w1.heap.size+3:=by rw [←hW0];simp
 have lt1:=HP.out.ltG
 have hI0:FlatI w.heap.size (w.heap.size+1) w.heap.size c r [] W0:=⟨[],fun _=>0,fun _=>[],rfl,List.nodup_nil,⟨fun D h=>by simp at h,fun D h=>by simp at h,fun D E h=>by simp at h⟩,fun k D h=>by simp at h,gP,fun D h=>by simp at h⟩
 rw [hW0]
 clear hW0 HB1 HP HN up1
 refine wpIn_rangeFunc_ownH rfl (by decide) (gf:=154) (lb:=#[.pointer (some ⟨w1.heap.size+1+1,0,none⟩)]) rfl trivial (enters_of Tryz.func154 (by kernel_rfl) rfl)
  (shAll_stops 2 (OneS w.heap.size) (w1.heap.size+1+1) (w.heap.size+1) w.heap.size c r (List.replicate (c*r).toNat none) W0 yG gP (fun W' hb b ho=>by unfold OneS at ho;omega) (fun V V' _ h=>oneS_up _ V V' h)) KeepS.trans (fun W l o o' _ h1 h2 _=>oneS_put _ W l o o' h1 h2) (Below.refl _ _) (fun _=>rfl)
  (fun pre W=>(FlatI w.heap.size (w.heap.size+1) w.heap.size c r pre W∧(Boxed W w1.heap.size 152 (.pointer (some ⟨w.heap.size+1,0,none⟩))∧Boxed W (w1.heap.size+1) 3 (.int .i64 (pre.length:Int))))∧Below w.heap.size w W)
  (fun c pre W=>False)
  (OwnFrom.and (OwnFrom.and (Own.from (flatI_own _ _ _ _ _) _) (OwnFrom.and (Own.from (boxed_own _ _ _) _) (Own.from (boxed_own _ _ fun pre:List ((Int×Int)×Ptr)=>.int .i64 (pre.length:Int)) _))) (ownFrom_below (Nat.le_refl _) (by omega)))
  (fun c=>ownFrom_pure _ (fun _=>False))
  ⟨⟨hI0,y5,y6⟩,upw⟩
  (fun x a' W=>∃ Bq,w1.heap.size+1<Bq∧Boxed2 W Bq 23 (.int .i64 x.1.1) (.int .i64 x.1.2) ∧
   a'={ tmps:=#[.int .i64 c,.int .i64 r,undef,undef,.pointer none,.pointer (some ⟨w1.heap.size,0,none⟩),.pointer (some ⟨w1.heap.size+1,0,none⟩),.pointer (some ⟨Bq,0,none⟩),.int .i64 c,.int .i64 r,.pointer (some ⟨w.heap.size+1,0,none⟩),.pointer (some ⟨w.heap.size+1,0,none⟩),.func (.func 154) #[] #[.pointer (some ⟨w1.heap.size+1+1,0,none⟩)],.agg #[.int .i64 x.1.1,.int .i64 x.1.2],.pointer x.2,undef,undef,undef,undef,undef,undef,undef,undef,undef,undef,undef,undef,undef],defers:=[] })
  (fun x a' _ X Y row hs hg hr=>by obtain ⟨Bx,h1,h2,h4⟩:=hs;exact ⟨Bx,h1,boxed2_own Bx _ _ _ () X Y row h2 hg (fun r e=>(hr r e).2),h4⟩)
  ?assign ?body ?done ?stop
 case assign =>
  rintro l0 pre x W K ⟨⟨hi,k5,k6⟩,hB1⟩ hK
  unfold encV
  gi_wp2
  exact hK _ _ ((KeepsOthers.alloc _ _).from _) (oneS_up _ _ _ (up_alloc (Below.refl _ _) _)) ⟨⟨hi.up (up_alloc (Below.refl _ _) _),k5.alloc _,k6.alloc _⟩,hB1.alloc hB1.size _⟩ ⟨W.heap.size,k6.lt,World.alloc_heap_new W _,rfl⟩
 case body =>
  rintro l0 pre x a' W hl _ ⟨⟨hi,k5,k6⟩,hB1⟩ ⟨Bq,hBq,kQ,rfl⟩ hlen
  obtain ⟨⟨px,py⟩,v⟩:=x
  simp only at kQ
  have c5:=k5.cell;have c6:=k6.cell;have q0:=kQ.c0;have q1:=kQ.c1
  have hn64:(List.replicate (c*r).toNat (none:Ptr)).length≤4096:=gP.le
  obtain ⟨n,hn⟩:∃ n,pre.length=n:=⟨_,rfl⟩
  rw [hn] at c6 k6 hlen
  have HI:=Lib.hid hi;have HN:=Lib.hid hn
  clear hi hn
  gi_wp2
  refine round_held (fun w'=>w'.cell? ⟨w1.heap.size,0,none⟩=some (.pointer (some ⟨w.heap.size+1,0,none⟩))∧w'.cell? ⟨w1.heap.size+1,0,none⟩=some (.int .i64 (n:Int))∧w'.cell? ⟨Bq,0,none⟩=some (.int .i64 px)∧w'.cell? ⟨Bq,1,none⟩=some (.int .i64 py)) (by kernel_rfl) (by kernel_rfl) ?_ ⟨c5,c6,q0,q1⟩ (fun hHeld=>?_)
  ·rintro ⟨a,w,h⟩
   exact h
  simp only [List.size_toArray,List.length_cons,List.length_nil,Nat.reduceAdd,Array.replicate_succ,Array.replicate_zero,List.push_toArray,List.nil_append,List.cons_append]
  refine held_take 0 (some 15) (.pointer (some ⟨w.heap.size+1,0,none⟩)) rfl rfl (by kernel_rfl) (by kernel_rfl) (by kernel_rfl) (fun _ _ _ h=>h) (Or.inl ⟨by rfl,?_⟩) (by assumption) ?_
  ·intro w hSw
   obtain ⟨s5,s6,sq0,sq1⟩:=hSw
   go_simp
  simp only [Act.put,List.setIfInBounds_toArray,List.set_cons_zero,List.set_cons_succ]
  refine held_take 1 (some 16) (.pointer (some ⟨Bq,0,none⟩)) rfl rfl (by kernel_rfl) (by kernel_rfl) (by kernel_rfl) (fun _ _ _ h=>h) (Or.inl ⟨by rfl,?_⟩) (by assumption) ?_
  ·intro w hSw
   obtain ⟨s5,s6,sq0,sq1⟩:=hSw
   go_simp
  simp only [Act.put,List.setIfInBounds_toArray,List.set_cons_zero,List.set_cons_succ]
  refine held_take 2 (some 17) (.int .i64 px) rfl rfl (by kernel_rfl) (by kernel_rfl) (by kernel_rfl) (fun _ _ _ h=>h) (Or.inl ⟨by rfl,?_⟩) (by assumption) ?_
  ·intro w hSw
   obtain ⟨s5,s6,sq0,sq1⟩:=hSw
   go_simp
  simp only [Act.put,List.setIfInBounds_toArray,List.set_cons_zero,List.set_cons_succ]
  refine held_take 3 (some 18) (.pointer (some ⟨Bq,1,none⟩)) rfl rfl (by kernel_rfl) (by kernel_rfl) (by kernel_rfl) (fun _ _ _ h=>h) (Or.inl ⟨by rfl,?_⟩) (by assumption) ?_
  ·intro w hSw
   obtain ⟨s5,s6,sq0,sq1⟩:=hSw
   go_simp
  simp only [Act.put,List.setIfInBounds_toArray,List.set_cons_zero,List.set_cons_succ]
  refine held_take 4 (some 19) (.int .i64 py) rfl rfl (by kernel_rfl) (by kernel_rfl) (by kernel_rfl) (fun _ _ _ h=>h) (Or.inl ⟨by rfl,?_⟩) (by assumption) ?_
  ·intro w hSw
   obtain ⟨s5,s6,sq0,sq1⟩:=hSw
   go_simp
  simp only [Act.put,List.setIfInBounds_toArray,List.set_cons_zero,List.set_cons_succ]
  refine held_take 5 (some 20) (.int .i64 (n:Int)) rfl rfl (by kernel_rfl) (by kernel_rfl) (by kernel_rfl) (fun _ _ _ h=>h) (Or.inl ⟨by rfl,?_⟩) (by assumption) ?_
  ·intro w hSw
   obtain ⟨s5,s6,sq0,sq1⟩:=hSw
   go_simp
  simp only [Act.put,List.setIfInBounds_toArray,List.set_cons_zero,List.set_cons_succ]
  refine held_take 6 (some 21) (.agg #[.int .i64 (n:Int),.int .i64 0,.bool false,.bool false]) rfl rfl (by kernel_rfl) (by kernel_rfl) (by kernel_rfl) (fun _ _ _ h=>h) (Or.inl ⟨by rfl,?_⟩) (by assumption) ?_
  ·intro w hSw
   obtain ⟨s5,s6,sq0,sq1⟩:=hSw
   go_simp
  simp only [Act.put,List.setIfInBounds_toArray,List.set_cons_zero,List.set_cons_succ]
  refine held_next 7 (by kernel_rfl) rfl (fun K hK=>?_)
  go_simp
  refine hK.out _ _ ?_ (fun hHeld=>?_)
  ·have hal:Below W.drew.heap.size W.drew (W.drew.alloc (.cells #[.int .i64 (n:Int),.int .i64 0,.bool false,.bool false] 141)):=up_alloc (Below.refl _ _) _
   exact ⟨bl_cell hal hHeld.1,bl_cell hal hHeld.2.1,bl_cell hal hHeld.2.2.1,bl_cell hal hHeld.2.2.2⟩
  clear hK K
  simp only [List.setIfInBounds_toArray,List.set_cons_zero,List.set_cons_succ]
  obtain ⟨ds,R,S,h1,h2,h3,h4,h5,h6⟩:=HI.out
  have hbW:Below W.heap.size W (W.alloc (.cells #[.int .i64 (n:Int),.int .i64 0,.bool false,.bool false] 141)).drew:=up_drew (up_alloc (Below.refl _ _) _)
  have KO:Calls Tryz.prog 136 #[.slice (some ⟨W.heap.size,0,none⟩) 1 1] (W.alloc (.cells #[.int .i64 (n:Int),.int .i64 0,.bool false,.bool false] 141)).drew (NewP (W.alloc (.cells #[.int .i64 (n:Int),.int .i64 0,.bool false,.bool false] 141)).drew [⟨(n:Int),false,false⟩]) :=
   pcOf_any (l:=[⟨(n:Int),false,false⟩]) 1 (fun j u hu=>(Bx.new W 141 [.int .i64 (n:Int),.int .i64 0,.bool false,.bool false]).1 j u hu) (by simp) (by simp)
  generalize (W.alloc (.cells #[.int .i64 (n:Int),.int .i64 0,.bool false,.bool false] 141)).drew=W1 at *
  have HO:=Lib.hid KO;have HB1:=Lib.hid hbW;have H5:=Lib.hid h5;have H3:=Lib.hid h3;have H4:=Lib.hid h4;have H6:=Lib.hid h6;have H1:=Lib.hid h1;have H2:=Lib.hid h2
  clear KO hbW h1 h2 h3 h4 h5 h6
  refine held_next 8 (by kernel_rfl) rfl (fun K hK=>?_)
  go_simp
  refine HO.out.mono ?_
  rintro e w2 ⟨D,R0,rfl,hD,hb2⟩
  have hbw2:Below W.heap.size W w2:=up_trans HB1.out hb2
  refine hK.out _ _ ⟨bl_cell hb2 hHeld.1,bl_cell hb2 hHeld.2.1,bl_cell hb2 hHeld.2.2.1,bl_cell hb2 hHeld.2.2.2⟩ (fun hHeld2=>?_)
  clear hK K
  simp only [List.setIfInBounds_toArray,List.set_cons_zero,List.set_cons_succ]
  have HS:=Lib.hid (shSet_any (H5.out.up hbw2) px py (ptrD D))
  have HD:=Lib.hid hD;have HB2:=Lib.hid hbw2
  clear hHeld hD hbw2 hb2 HO
  refine held_next 9 (by kernel_rfl) rfl (fun K hK=>?_)
  go_simp
  refine HS.out.mono ?_
  rintro e w3 ⟨rfl,hG3,hg3⟩
  have kc:∀ {b o:Nat} {u:Value},w2.cell? ⟨b,o,none⟩=some u→b≠w.heap.size→w3.cell? ⟨b,o,none⟩=some u:=fun h hne=>(World.cell?_of_block (hg3.block _ (World.block_lt_of_cell? w2 _ h) (fun e=>hne (by injection e)))).trans h
  refine hK.out _ _ ⟨kc hHeld2.1 (by omega),kc hHeld2.2.1 (by omega),kc hHeld2.2.2.1 (by omega),kc hHeld2.2.2.2 (by omega)⟩ (fun hHeld3=>?_)
  clear hK K
  refine wpAnyH_done (by kernel_rfl) ?_ _
  have hA1:∀ o:Obj,w2.heap[w.heap.size]?=some o→o.isCells=true:=fun o ho=>(H5.out.up HB2.out).isCells ho
  have hm:=FlatI.more H1.out H2.out H3.out H4.out H5.out H6.out hB1.size HB2.out (x:=((px,py),v)) (by rw [HN.out];exact HD.out.base W.heap.size (Nat.le_trans HB1.out.size HD.out.low) (Nat.le_trans HB1.out.size HD.out.ltR.1)) hG3 hg3
  have k6':Boxed w3 (w1.heap.size+1) 3 (.int .i64 (n:Int)):=(hg3.block _ (Nat.lt_of_lt_of_le k6.lt HB2.out.size) (fun e=>by injection e with e;omega)).trans ((HB2.out.block _ k6.lt).trans k6)
  have k5':Boxed w3 w1.heap.size 152 (.pointer (some ⟨w.heap.size+1,0,none⟩)):=(hg3.block _ (Nat.lt_of_lt_of_le k5.lt HB2.out.size) (fun e=>by injection e with e;omega)).trans ((HB2.out.block _ k5.lt).trans k5)
  have kw:KeepsOthers W w3:=(KeepsOthers.of_grownBy (row:=none) ⟨HB2.out.os,HB2.out.tape,HB2.out.output,HB2.out.size,fun k hk _=>HB2.out.block k hk⟩ (fun j o e=>by cases e)).trans (KeepsOthers.of_grownBy hg3 (fun j o e ho=>by cases e;exact hA1 o ho))
  have ks:KeepS (OneS w.heap.size) W w3:=(oneS_up _ _ _ HB2.out).trans (oneS_grown _ hg3)
  have hb3:Below w.heap.size w w3:=(hB1.trans (HB2.out.mono hB1.size)).grown hg3 (Nat.le_trans hB1.size HB2.out.size) (fun k e=>by cases e;exact Nat.le_refl _)
  have c6:=k6'.cell;have f6:=k6'.frozen
  have wn:IntKind.i64.wrap ((n:Int)+1)=(n:Int)+1:=IntWalk.i64_in _ (by omega)
  have HM:=Lib.hid hm;have HKW:=Lib.hid kw;have HKS:=Lib.hid ks;have HB3:=Lib.hid hb3
  clear hm kw ks hb3 hHeld2 hHeld3 hg3 hG3 HS H1 H2 H3 H4 H5 H6 HD hA1 kc q0 q1 c5
  gi_wp2
  refine ⟨(HKW.out.trans (KeepsOthers.setCell _ _ _)).from _,HKS.out.trans (keepS_box k6' (by decide) (fun b h=>h)),⟨HM.out.far k6' ⟨by decide,by decide⟩ (by omega),k5'.other (by omega) _,?_⟩,HB3.out.setCell (by simp;omega) _⟩
  have e:((pre++[((px,py),v)]).length:Int)=(n:Int)+1:=by rw [List.length_append,HN.out];simp
  simp only [e]
  exact k6'.set _
 case done =>
  rintro D ys W hD rfl ⟨⟨hi,k5,k6⟩,hB1⟩ hK
  have hc5:=k5.cell
  gi_wp2
  refine ⟨by simp,.inl ⟨_,_,rfl,run_takeDeferred hK,?_⟩⟩
  obtain ⟨ds,R,S,h1,h2,h3,h4,h5,h6⟩:=hi
  have hp:0≤c*r:=Int.mul_nonneg (by omega) (by omega)
  have hl:ds.length=(c*r).toNat:=by rw [h1,ptS_length];simp
  have e:=laid_all c r hc hr (List.replicate (c*r).toNat none) ds hl ds.length (Nat.le_refl _)
  rw [List.take_length,hl,Nat.sub_self,List.replicate_zero,List.append_nil] at e
  rw [List.length_replicate,e] at h5
  have hg:=grownBy_putObj' W D (.deferred none)
  have hr':∀ r,some D=some r→∃ o:Obj,W.heap[r]?=some o∧o.isCells=false:=fun r e=>by cases e;exact ⟨_,hK,rfl⟩
  exact ⟨_,results_tmp rfl _ _ _,_,_,ds,R,S,rfl,by omega,h2,h3.kept hg hr',h4,h5.put hK rfl,by omega,Nat.le_refl _,hB1.trans (belowK_b (w:=w) (Nat.le_refl _) W D _ _ (by omega) hK rfl rfl)⟩
 case stop =>
  rintro D c pre W hD hpre h hK
  exact h.elim
end Go.Proofs.YtbbjileignefbaaGreatDoor
