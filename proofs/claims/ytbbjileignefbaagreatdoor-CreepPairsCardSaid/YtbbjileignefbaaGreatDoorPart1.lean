/- Part 1 of the texts that the proofs of this seat share: NumIn, RefIn, Later, Boxes, StepCode, StepSp, SchemeSc, StepAll, SchemeCode, Shelf, DecPut, DecMath. -/
import Derived.Test.YtbbjileignefbaaGreatDoorProg
import Derived.WalkKit
import Derived.RowKit3
import Derived.Below
import Derived.Deep.QuietTactic
import Derived.BigQuiet
import Derived.WalkSpells
import Derived.Deep.RegionHeld
import Derived.Lib.Hide
import Derived.OwnWalk
import Derived.Shelf.Strconv.Itoa3
import Derived.Shelf.Strconv.ErrVarAll
import Derived.Shelf.Small.Wraps
import Derived.Shelf.Strings.Split
import Derived.Shelf.Strings.Cut
import Derived.Shelf.SlGeneric
import Derived.Ground.SlgnProg
import Derived.Shelf.SlicesQ.Reverse
import Derived.Shelf.SlicesE.Clone
import Derived.Lib.AppendIntMem
import Derived.Lib.ItoaNum
import Derived.Lib.AtoiAllCases
set_option linter.unusedVariables false
namespace Go.Proofs.YtbbjileignefbaaGreatDoor
open Go.RowKit
theorem in_any (n lo hi:Int) (w:World) :
  Calls Tryz.prog 36 #[.int .i64 n,.int .i64 lo,.int .i64 hi] w fun e w'=>e=.returned (.bool (decide (lo≤n)&&decide (n≤hi)))∧w=w':=by
 by_cases h1:lo≤n<;>by_cases h2:n≤hi
 all_goals
  go_enter Tryz.func36,Tryz.ntmps36
  go_wp2
  go_ret
  exact ⟨by simp [h1,h2],rfl⟩
def inB (n lo hi:Int):Bool:=decide (lo≤n)&&decide (n≤hi)
theorem refIn_any (n lo hi:Int) (w:World) :
  Calls Tryz.prog 32 #[.int .i64 n,.int .i64 lo,.int .i64 hi] w fun e w'=>e=.returned (.bool (inB n lo hi))∧w'=w:=by
 by_cases h1:lo≤n<;>by_cases h2:n≤hi
 all_goals
  go_enter Tryz.func32,Tryz.ntmps32
  go_wp2
  go_ret
  exact ⟨by simp [inB,h1,h2],rfl⟩
theorem bl_cell {w w':World} {p:Addr} {v:Value} (h:Below w.heap.size w w') (hc:w.cell? p=some v):w'.cell? p=some v:=(h.cell (World.block_lt_of_cell? w p hc)).trans hc
theorem up_alloc {a w:World} (h:Below a.heap.size a w) (o:Obj):Below a.heap.size a (w.alloc o):=h.alloc h.size o
theorem up_drew {a w:World} (h:Below a.heap.size a w):Below a.heap.size a w.drew:=h.drew
theorem up_trans {a b c:World} (h:Below a.heap.size a b) (k:Below b.heap.size b c):Below a.heap.size a c:=h.trans (k.mono h.size)
theorem up_set {a w:World} (h:Below a.heap.size a w) {p:Addr} (hp:a.heap.size≤p.block) (u:Value):Below a.heap.size a (w.setCell p u):=h.setCell hp u
theorem kept_cells {W w1:World} (hb:Below W.heap.size W w1) (b o:Nat) (h:b<W.heap.size):w1.cell? ⟨b,o,none⟩=W.cell? ⟨b,o,none⟩:=hb.cell (p:=⟨b,o,none⟩) h
theorem kept_marks {W w1:World} (hb:Below W.heap.size W w1) (b o:Nat) (h:b<W.heap.size):w1.frozen? ⟨b,o,none⟩=W.frozen? ⟨b,o,none⟩:=hb.frozen (p:=⟨b,o,none⟩) h
structure Later (w:World) where
 now:World
 up:Below w.heap.size w now
instance (w:World):Nonempty (Later w):=⟨⟨w,Below.refl _ _⟩⟩
theorem Later.cell {w:World} (u:Later w) {p:Addr} {v:Value} (h:w.cell? p=some v):u.now.cell? p=some v:=bl_cell u.up h
theorem Later.call {P:Program} {f:FuncId} {args:Array Value} {w:World} {u:Later w} {v:Value} (h:Calls P f args u.now fun e w'=>e=.returned v∧Below u.now.heap.size u.now w') :
  Calls P f args u.now fun e w''=>e=.returned v∧∃ u':Later w,w''=u'.now:=h.mono fun _ _ ⟨he,hb⟩=>⟨he,⟨_,up_trans u.up hb⟩,rfl⟩
theorem Later.next {w:World} {u:Later w} {w':World} (h:Below u.now.heap.size u.now w'):∃ u':Later w,w'=u'.now:=⟨⟨_,up_trans u.up h⟩,rfl⟩
theorem later_start {w:World} {G:World→Prop} (h:∀ u:Later w,G u.now):G w:=h ⟨w,Below.refl _ _⟩
theorem wp_region_later {P:Program} {id:Nat} {Q:Exit→Act→World→Prop} {a:Act} {w:World} {u:Later w} {l:List Oper} (hm:P.follows .mixedOrders=true) (hB:Region.lexB .any l.toArray=true)
  (h:wpQuiet P l.toArray (fun w'=>∃ u:Later w,w'=u.now) (fun a'=>∀ w',(∃ u:Later w,w'=u.now)→Q .normal a' w') l a):(Code.region id l.toArray true).wp P Q a u.now :=
 wp_region_quiet (C:=fun w'=>∃ u:Later w,w'=u.now) hm hB ⟨⟨_,up_drew u.up⟩,rfl⟩ (by simpa using h)
def Bx (w:World) (B:Nat) (vs:List Value):Prop:=(∀ j v,vs[j]?=some v→w.cell? ⟨B,j,none⟩=some v)∧∀ j,w.frozen? ⟨B,j,none⟩=false
theorem Bx.cell {w:World} {B:Nat} {vs:List Value} (h:Bx w B vs) (j:Nat) {v:Value} (hj:vs[j]?=some v):w.cell? ⟨B,j,none⟩=some v:=h.1 j v hj
theorem Bx.free {w:World} {B:Nat} {vs:List Value} (h:Bx w B vs) (j:Nat):w.frozen? ⟨B,j,none⟩=false:=h.2 j
theorem Bx.up {w w':World} {B:Nat} {v0:Value} {vs:List Value} (h:Bx w B (v0 :: vs)) (hb:Below w.heap.size w w'):Bx w' B (v0 :: vs) :=
 ⟨fun j v hj=>bl_cell hb (h.1 j v hj),fun j=>(kept_marks hb B j (World.block_lt_of_cell? w _ (h.1 0 v0 rfl))).trans (h.2 j)⟩
theorem Bx.alloc {w:World} {B:Nat} {v0:Value} {vs:List Value} (h:Bx w B (v0 :: vs)) (o:Obj):Bx (w.alloc o) B (v0 :: vs):=h.up (up_alloc (Below.refl _ _) o)
theorem Bx.new (w:World) (t:TypeId) (vs:List Value):Bx (w.alloc (.cells vs.toArray t)) w.heap.size vs:=by
 refine ⟨fun j v hj=>?_,fun j=>?_⟩
 ·have hj':=hj
  obtain ⟨hlt,rfl⟩:=List.getElem?_eq_some_iff.1 hj'
  simp [go_sem,hlt]
 ·simp [go_sem]
theorem Bx.far {w:World} {B:Nat} {vs:List Value} (h:Bx w B vs) {p:Addr} (hp:p.block≠B) (x:Value):Bx (w.setCell p x) B vs :=
 ⟨fun j v hj=>(World.cell?_setCell_far _ _ _ _ hp).trans (h.1 j v hj),fun j=>by simp only [World.frozen?_setCell];exact h.2 j⟩
theorem Bx.set {w:World} {B:Nat} {vs:List Value} (h:Bx w B vs) (i:Nat) (x:Value):Bx (w.setCell ⟨B,i,none⟩ x) B (vs.set i x):=by
 refine ⟨fun j v hj=>?_,fun j=>by simp only [World.frozen?_setCell];exact h.2 j⟩
 rw [List.getElem?_set] at hj
 by_cases e:i=j
 ·subst e
  simp only [if_true] at hj
  split at hj
  ·rename_i hlt
   obtain rfl:=Option.some.inj hj
   exact World.cell?_setCell_same w _ _ (h.1 i _ (List.getElem?_eq_getElem hlt))
  ·cases hj
 ·rw [if_neg e] at hj
  rw [World.cell?_setCell_other _ _ _ _ (by intro k;exact e (by injection k))]
  exact h.1 j v hj
theorem Bx.set3 {w:World} {B:Nat} {a0 a1 a2:Value} (h:Bx w B [a0,a1,a2]) (v0 v1 v2:Value):Bx (((w.setCell ⟨B,0,none⟩ v0).setCell ⟨B,1,none⟩ v1).setCell ⟨B,2,none⟩ v2) B [v0,v1,v2]:=((h.set 0 v0).set 1 v1).set 2 v2
theorem Bx.drew {w:World} {B:Nat} {v0:Value} {vs:List Value} (h:Bx w B (v0 :: vs)):Bx w.drew B (v0 :: vs):=h.up (up_drew (Below.refl _ _))
theorem Bx.lt {w:World} {B:Nat} {v0:Value} {vs:List Value} (h:Bx w B (v0 :: vs)):B<w.heap.size:=World.block_lt_of_cell? w _ (h.1 0 v0 rfl)
def rightB (d n:Int):Bool:=(decide (1≤d)&&decide (d≤4))&&(decide (1≤n)&&decide (n≤64))
theorem rightB_true {d n:Int} (h:rightB d n=true):(1≤d∧d≤4)∧1≤n∧n≤64:=by simpa [rightB] using h
theorem stepRight_any (d n:Int) (u:Bool) (w:World) :
  Calls Tryz.prog 107 #[.agg #[.int .i64 d,.int .i64 n,.bool u]] w fun e w'=>e=.returned (.bool (rightB d n))∧Below w.heap.size w w':=by
 have K1:=fun w=>in_any d 1 4 w
 have K2:=fun w=>in_any n 1 64 w
 unfold rightB
 generalize (decide (1≤d)&&decide (d≤4))=a at *
 generalize (decide (1≤n)&&decide (n≤64))=b at *
 have H1:=Lib.hid K1;have H2:=Lib.hid K2
 clear K1 K2
 cases a
 all_goals
  go_enter Tryz.func107,Tryz.ntmps107
  go_wp2_with (first
   | (go_at_call 36;with_reducible refine (H1.out _).mono ?_;rintro e w' ⟨rfl,rfl⟩)
   | (go_at_call 36;with_reducible refine (H2.out _).mono ?_;rintro e w' ⟨rfl,rfl⟩))
  go_ret
  exact ⟨by simp,up_alloc (Below.refl _ _) _⟩
theorem refRight_any (d n:Int) (u:Bool) (w:World) :
  Calls Tryz.prog 81 #[.agg #[.int .i64 d,.int .i64 n,.bool u]] w fun e w'=>e=.returned (.bool (rightB d n))∧Below w.heap.size w w':=by
 have K1:=fun w=>refIn_any d 1 4 w
 have K2:=fun w=>refIn_any n 1 64 w
 unfold inB at K1 K2
 unfold rightB
 generalize (decide (1≤d)&&decide (d≤4))=a at *
 generalize (decide (1≤n)&&decide (n≤64))=b at *
 have H1:=Lib.hid K1;have H2:=Lib.hid K2
 clear K1 K2
 cases a
 all_goals
  go_enter Tryz.func81,Tryz.ntmps81
  go_wp2_with (first
   | (go_at_call 32;with_reducible refine (H1.out _).mono ?_;rintro e w' ⟨rfl,rfl⟩)
   | (go_at_call 32;with_reducible refine (H2.out _).mono ?_;rintro e w' ⟨rfl,rfl⟩))
  go_ret
  exact ⟨by simp,up_alloc (Below.refl _ _) _⟩
theorem stepThere_any (c r:Int) (w:World) :
  Calls Tryz.prog 95 #[.int .i64 c,.int .i64 r] w fun e w'=>e=.returned (.bool (decide (1≤c)&&decide (1≤r)))∧w'=w:=by
 by_cases h1:1≤c<;>by_cases h2:1≤r
 all_goals
  go_enter Tryz.func95,Tryz.ntmps95
  go_wp2
  go_ret
  exact ⟨by simp [h1,h2],rfl⟩
def aft (c r d n:Int):Int×Int×Bool :=
 if (1≤c∧1≤r)∧rightB d n=true then
  if d≤2 then (if 2*n≤c then (c-n,r,true) else (0,0,false))
  else (if 2*n≤r then (c,r-n,true) else (0,0,false))
 else (0,0,false)
theorem aft_yes {c r d n:Int} (h:(aft c r d n).2.2=true):((1≤c∧1≤r)∧(1≤d∧d≤4)∧1≤n∧n≤64)∧((d≤2∧2*n≤c∧aft c r d n=(c-n,r,true))∨(2<d∧2*n≤r∧aft c r d n=(c,r-n,true))):=by
 unfold aft at h ⊢
 split at h
 ·rename_i hr
  refine ⟨⟨hr.1,rightB_true hr.2⟩,?_⟩
  rw [if_pos hr]
  split at h
  ·rename_i hd
   rw [if_pos hd]
   split at h
   ·rename_i hn;left;exact ⟨hd,hn,if_pos hn⟩
   ·cases h
  ·rename_i hd
   rw [if_neg hd]
   split at h
   ·rename_i hn;right;exact ⟨by omega,hn,if_pos hn⟩
   ·cases h
 ·cases h
theorem aft_no {c r d n:Int} (h:(aft c r d n).2.2=false):aft c r d n=(0,0,false):=by
 unfold aft at h ⊢
 split at h
 ·rename_i hr
  rw [if_pos hr]
  split at h
  ·rename_i hd
   rw [if_pos hd]
   split at h
   ·cases h
   ·rename_i hn;rw [if_neg hn]
  ·rename_i hd
   rw [if_neg hd]
   split at h
   ·cases h
   ·rename_i hn;rw [if_neg hn]
 ·rename_i hr;rw [if_neg hr]
theorem ret3 {p:Int×Int×Bool} {a b:Int} {c:Bool} (h:p=(a,b,c)):Ending.returned (.tuple #[.int .i64 a,.int .i64 b,.bool c])=.returned (.tuple #[.int .i64 p.1,.int .i64 p.2.1,.bool p.2.2]):=by rw [h]
theorem stepAfter_bad (c r d n:Int) (u t g:Bool) (w:World) (htg:t=false∨g=false)
  (KT:∀ w,Calls Tryz.prog 95 #[.int .i64 c,.int .i64 r] w fun e w'=>e=.returned (.bool t)∧w'=w)
  (KR:∀ w,Calls Tryz.prog 107 #[.agg #[.int .i64 d,.int .i64 n,.bool u]] w fun e w'=>e=.returned (.bool g)∧Below w.heap.size w w') :
  Calls Tryz.prog 96 #[.int .i64 c,.int .i64 r,.agg #[.int .i64 d,.int .i64 n,.bool u]] w fun e w'=>e=.returned (.tuple #[.int .i64 0,.int .i64 0,.bool false])∧Below w.heap.size w w':=by
 have HT:=Lib.hid KT;have HR:=Lib.hid KR
 clear KT KR
 cases t
 ·clear htg
  go_enter Tryz.func96,Tryz.ntmps96
  go_wp2_with fail
  refine (HT.out _).mono ?_
  rintro e w1 ⟨rfl,rfl⟩
  go_wp2
  refine bodyPost_ret (v:=.tuple #[.int .i64 0,.int .i64 0,.bool false]) (by simp [results,Tryz.results96,go_sem]) rfl ⟨rfl,up_alloc (Below.refl _ _) _⟩
 ·obtain rfl:g=false:=by simpa using htg
  clear htg
  go_enter Tryz.func96,Tryz.ntmps96
  go_wp2_with fail
  refine (HT.out _).mono ?_
  rintro e w1 ⟨rfl,rfl⟩
  go_wp2_with fail
  refine (HR.out _).mono ?_
  rintro e w2 ⟨rfl,hb⟩
  go_wp2
  refine bodyPost_ret (v:=.tuple #[.int .i64 0,.int .i64 0,.bool false]) (by simp [results,Tryz.results96,go_sem]) rfl ⟨rfl,up_trans (up_alloc (Below.refl _ _) _) hb⟩
set_option maxHeartbeats 1000000 in
theorem stepAfter_side (c r d n:Int) (u:Bool) (w:World) (c0:1≤c) (c1:c≤9223372036854775807) (r0:1≤r) (r1:r≤9223372036854775807) (n0:1≤n) (n1:n≤64) (hd:d=1∨d=2)
  (KT:∀ w,Calls Tryz.prog 95 #[.int .i64 c,.int .i64 r] w fun e w'=>e=.returned (.bool true)∧w'=w)
  (KR:∀ w,Calls Tryz.prog 107 #[.agg #[.int .i64 d,.int .i64 n,.bool u]] w fun e w'=>e=.returned (.bool true)∧Below w.heap.size w w') (F:Int×Int×Bool) (hF:(if 2*n≤c then (c-n,r,true) else (0,0,false))=F) :
  Calls Tryz.prog 96 #[.int .i64 c,.int .i64 r,.agg #[.int .i64 d,.int .i64 n,.bool u]] w fun e w'=>e=.returned (.tuple #[.int .i64 F.1,.int .i64 F.2.1,.bool F.2.2])∧Below w.heap.size w w':=by
 have HT:=Lib.hid KT;have HR:=Lib.hid KR;have HF:=Lib.hid hF
 clear KT KR hF
 rcases hd with rfl | rfl
 all_goals
  go_enter Tryz.func96,Tryz.ntmps96
  go_wp2_with fail
  refine (HT.out _).mono ?_
  rintro e w1 ⟨rfl,rfl⟩
  go_wp2_with fail
  refine (HR.out _).mono ?_
  rintro e w2 ⟨rfl,hb⟩
  have A:=(Bx.new w 58 [_,.int .i64 n,.bool u]).up hb
  have a0:=A.cell 0 rfl;have a1:=A.cell 1 rfl
  have B1:=Lib.hid (up_trans (up_alloc (Below.refl _ w) _) hb)
  clear hb A
  by_cases h:2*n≤c
  ·go_wp2
   exact bodyPost_ret (v:=.tuple #[.int .i64 (c-n),.int .i64 r,.bool true]) (by simp [results,Tryz.results96,go_sem]) rfl ⟨ret3 (by rw [←HF.out,if_pos (by omega)]),B1.out⟩
  ·go_wp2
   exact bodyPost_ret (v:=.tuple #[.int .i64 0,.int .i64 0,.bool false]) (by simp [results,Tryz.results96,go_sem]) rfl ⟨ret3 (by rw [←HF.out,if_neg (by omega)]),B1.out⟩
set_option maxHeartbeats 1000000 in
theorem stepAfter_foot (c r d n:Int) (u:Bool) (w:World) (c0:1≤c) (c1:c≤9223372036854775807) (r0:1≤r) (r1:r≤9223372036854775807) (n0:1≤n) (n1:n≤64) (hd:d=3∨d=4)
  (KT:∀ w,Calls Tryz.prog 95 #[.int .i64 c,.int .i64 r] w fun e w'=>e=.returned (.bool true)∧w'=w)
  (KR:∀ w,Calls Tryz.prog 107 #[.agg #[.int .i64 d,.int .i64 n,.bool u]] w fun e w'=>e=.returned (.bool true)∧Below w.heap.size w w') (F:Int×Int×Bool) (hF:(if 2*n≤r then (c,r-n,true) else (0,0,false))=F) :
  Calls Tryz.prog 96 #[.int .i64 c,.int .i64 r,.agg #[.int .i64 d,.int .i64 n,.bool u]] w fun e w'=>e=.returned (.tuple #[.int .i64 F.1,.int .i64 F.2.1,.bool F.2.2])∧Below w.heap.size w w':=by
 have HT:=Lib.hid KT;have HR:=Lib.hid KR;have HF:=Lib.hid hF
 clear KT KR hF
 rcases hd with rfl | rfl
 all_goals
  go_enter Tryz.func96,Tryz.ntmps96
  go_wp2_with fail
  refine (HT.out _).mono ?_
  rintro e w1 ⟨rfl,rfl⟩
  go_wp2_with fail
  refine (HR.out _).mono ?_
  rintro e w2 ⟨rfl,hb⟩
  have A:=(Bx.new w 58 [_,.int .i64 n,.bool u]).up hb
  have a0:=A.cell 0 rfl;have a1:=A.cell 1 rfl
  have B1:=Lib.hid (up_trans (up_alloc (Below.refl _ w) _) hb)
  clear hb A
  by_cases h:2*n≤r
  ·go_wp2
   go_region
   all_goals
    go_wp2
    go_ret3
    exact ⟨ret3 (by rw [←HF.out,if_pos (by omega)]),by have:=B1.out;repeat (first | (with_reducible exact this) | (with_reducible apply up_drew))⟩
  ·go_wp2
   exact bodyPost_ret (v:=.tuple #[.int .i64 0,.int .i64 0,.bool false]) (by simp [results,Tryz.results96,go_sem]) rfl ⟨ret3 (by rw [←HF.out,if_neg (by omega)]),B1.out⟩
theorem stepAfter_any (c r d n:Int) (u:Bool) (w:World) (c1:c≤9223372036854775807) (r1:r≤9223372036854775807) :
  Calls Tryz.prog 96 #[.int .i64 c,.int .i64 r,.agg #[.int .i64 d,.int .i64 n,.bool u]] w fun e w'=>e=.returned (.tuple #[.int .i64 (aft c r d n).1,.int .i64 (aft c r d n).2.1,.bool (aft c r d n).2.2])∧Below w.heap.size w w':=by
 have KT:=fun w=>stepThere_any c r w
 have KR:=fun w=>stepRight_any d n u w
 by_cases h:(1≤c∧1≤r)∧rightB d n=true
 ·have hr:=rightB_true h.2
  rw [show (decide (1≤c)&&decide (1≤r))=true by simp [h.1]] at KT
  rw [h.2] at KR
  by_cases hd:d≤2
  ·exact stepAfter_side c r d n u w h.1.1 c1 h.1.2 r1 hr.2.1 hr.2.2 (by omega) KT KR _ (by unfold aft;rw [if_pos h,if_pos hd])
  ·exact stepAfter_foot c r d n u w h.1.1 c1 h.1.2 r1 hr.2.1 hr.2.2 (by omega) KT KR _ (by unfold aft;rw [if_pos h,if_neg hd])
 ·rw [show aft c r d n=(0,0,false) by unfold aft;rw [if_neg h]]
  refine stepAfter_bad c r d n u _ _ w ?_ KT KR
  by_cases hg:rightB d n=true
  ·left
   have h2:¬ (1≤c∧1≤r):=fun h2=>h ⟨h2,hg⟩
   simp;omega
  ·right;simpa using hg
end Go.Proofs.YtbbjileignefbaaGreatDoor
namespace Go.Proofs.YtbbjileignefbaaGreatDoor
structure Sp where
 d:Int
 n:Int
 u:Bool
deriving DecidableEq
structure Sc where
 c:Int
 r:Int
 l:List Sp
deriving DecidableEq
def zeroSc:Sc:=⟨0,0,[]⟩
def sideB (n:Int):Bool:=decide (1≤n)&&decide (n≤64)
theorem sideB_true {n:Int} (h:sideB n=true):1≤n∧n≤64:=by simpa [sideB] using h
end Go.Proofs.YtbbjileignefbaaGreatDoor
namespace Go.Proofs.YtbbjileignefbaaGreatDoor
open Go.RowKit
def allM:Int→Int→List Sp→Int×Int×Bool
 | c,r,[]=>(c,r,true)
 | c,r,p :: l=>if (aft c r p.d p.n).2.2=true then allM (aft c r p.d p.n).1 (aft c r p.d p.n).2.1 l else (0,0,false)
def allS (c r:Int) (l:List Sp):Int×Int×Bool:=if 1≤c∧1≤r then allM c r l else (0,0,false)
theorem allM_yes {c r c' r':Int} {p:Sp} {l:List Sp} (h:aft c r p.d p.n=(c',r',true)):allM c r (p :: l)=allM c' r' l:=by simp [allM,h]
theorem allM_no {c r:Int} {p:Sp} {l:List Sp} (h:aft c r p.d p.n=(0,0,false)):allM c r (p :: l)=(0,0,false):=by simp [allM,h]
def InS (w:World) (b off:Nat) (l:List Sp):Prop:=∀ j p,l[j]?=some p→w.cell? ⟨b,off+j*3,none⟩=some (.int .i64 p.d)∧w.cell? ⟨b,off+j*3+1,none⟩=some (.int .i64 p.n)∧w.cell? ⟨b,off+j*3+2,none⟩=some (.bool p.u)
theorem InS.up {w w':World} {b off:Nat} {l:List Sp} (h:InS w b off l) (hb:Below w.heap.size w w'):InS w' b off l:=fun j p hp=>by
 obtain ⟨c0,c1,c2⟩:=h j p hp
 exact ⟨bl_cell hb c0,bl_cell hb c1,bl_cell hb c2⟩
theorem stepAll_bad (c r:Int) (v:Value) (w:World) (h:¬ (1≤c∧1≤r)) :
  Calls Tryz.prog 85 #[.int .i64 c,.int .i64 r,v] w fun e w'=>e=.returned (.tuple #[.int .i64 0,.int .i64 0,.bool false])∧Below w.heap.size w w':=by
 have KT:=fun w=>stepThere_any c r w
 rw [show (decide (1≤c)&&decide (1≤r))=false by simp;omega] at KT
 have HT:=Lib.hid KT
 clear KT h
 go_enter Tryz.func85,Tryz.ntmps85
 go_wp2_with fail
 refine (HT.out _).mono ?_
 rintro e w1 ⟨rfl,rfl⟩
 go_wp2
 go_ret3
 exact ⟨rfl,Below.refl _ _⟩
def AllRel (l:List Sp) (F:Int×Int×Bool) (w:World) (x y i:Value) (wr:World):Prop :=
 ∃ (k:Nat) (c r:Int),k≤l.length∧x=.int .i64 c∧y=.int .i64 r∧i=.int .i64 (k:Int)∧(1≤c∧c≤9223372036854775807)∧(1≤r∧r≤9223372036854775807)∧Hid (allM c r (l.drop k)=F)∧Below w.heap.size w wr
theorem drop_step {l:List Sp} {k:Nat} {p:Sp} (h:l[k]?=some p):l.drop k=p :: l.drop (k+1):=by
 obtain ⟨hlt,rfl⟩:=List.getElem?_eq_some_iff.1 h
 exact List.drop_eq_getElem_cons hlt
theorem aft_in {c r d n c' r':Int} (h:aft c r d n=(c',r',true)) (c1:c≤9223372036854775807) (r1:r≤9223372036854775807):(1≤c'∧c'≤9223372036854775807)∧1≤r'∧r'≤9223372036854775807:=by
 obtain ⟨⟨h0,_⟩,h1⟩:=aft_yes (c:=c) (r:=r) (d:=d) (n:=n) (by rw [h])
 rcases h1 with ⟨_,_,e⟩ | ⟨_,_,e⟩
 all_goals
  rw [h] at e
  simp only [Prod.mk.injEq] at e
  omega
set_option maxHeartbeats 1000000 in
theorem stepAll_good (a:Option Addr) (cap:Nat) (c r:Int) (l:List Sp) (w:World) (c0:1≤c) (c1:c≤9223372036854775807) (r0:1≤r) (r1:r≤9223372036854775807) (hm:l.length≤1000000) (ha:l=[]∨∃ b off,a=some ⟨b,off,none⟩∧InS w b off l) :
  Calls Tryz.prog 85 #[.int .i64 c,.int .i64 r,.slice a l.length cap] w fun e w'=>e=.returned (.tuple #[.int .i64 (allM c r l).1,.int .i64 (allM c r l).2.1,.bool (allM c r l).2.2])∧Below w.heap.size w w':=by
 have KT:=fun w=>stepThere_any c r w
 rw [show (decide (1≤c)&&decide (1≤r))=true by simp [c0,r0]] at KT
 obtain ⟨F,hF⟩:∃ F,allM c r l=F:=⟨_,rfl⟩
 rw [hF]
 have HF:=Lib.hid hF;have HT:=Lib.hid KT
 clear hF KT
 have HC:=Lib.hid ha;clear ha
 generalize hn:l.length=n at *
 have HN:=Lib.hid hn;clear hn
 go_enter Tryz.func85,Tryz.ntmps85
 go_wp2_with fail
 refine (HT.out _).mono ?_
 rintro e w1 ⟨rfl,rfl⟩
 go_wp2
 go_loopw [0,1,18] (fun x y i wr=>AllRel l F w1 x y i wr) (fun _ _ i _=>n-(intOf i).toNat)
 case atStart=>exact ⟨0,c,r,by omega,rfl,rfl,by go_num,⟨c0,c1⟩,⟨r0,r1⟩,HF.out,Below.refl _ _⟩
 case round =>
  obtain ⟨k,x,y,hk,rfl,rfl,rfl,⟨x0,x1⟩,⟨y0,y1⟩,HM,hb⟩:=hrel
  rw [HN.out] at hk
  by_cases hlt:k<n
  ·obtain ⟨p,hp⟩:∃ p,l[k]?=some p:=⟨l[k]'(by rw [HN.out];exact hlt),List.getElem?_eq_getElem _⟩
   obtain ⟨b,off,rfl,hc⟩:=HC.out.resolve_left (by rintro rfl;cases hp)
   obtain ⟨d0,d1,d2⟩:=hc.up hb k p hp
   have hd:=drop_step hp
   have KA:=fun w=>stepAfter_any x y p.d p.n p.u w x1 y1
   have z0:(0:Int)≤(k:Int):=by omega
   have z1:(k:Int)<(n:Int):=by omega
   cases hz:(aft x y p.d p.n).2.2
   ·have E:=Lib.hid (show F=(0,0,false) by rw [←HM.out,hd];exact allM_no (aft_no hz))
    rw [aft_no hz] at KA
    obtain ⟨pd,pn,pu⟩:=p
    simp only at d0 d1 d2 KA
    have HA:=Lib.hid KA;have HB:=Lib.hid hb
    clear KA hb hc hp hd hz
    go_wp2_with fail
    refine (HA.out _).mono ?_
    rintro e w2 ⟨rfl,hb2⟩
    go_wp2
    go_ret3
    exact ⟨ret3 E.out,up_trans (up_alloc HB.out _) hb2⟩
   ·obtain ⟨x',y',hz'⟩:∃ x' y',aft x y p.d p.n=(x',y',true):=⟨(aft x y p.d p.n).1,(aft x y p.d p.n).2.1,by rw [←hz]⟩
    have hin:=aft_in hz' x1 y1
    have E:=Lib.hid (show allM x' y' (l.drop (k+1))=F by rw [←HM.out,hd];exact (allM_yes hz').symm)
    rw [hz'] at KA
    obtain ⟨pd,pn,pu⟩:=p
    simp only at d0 d1 d2 KA
    have HA:=Lib.hid KA;have HB:=Lib.hid hb;have HI:=Lib.hid hin
    clear KA hb hc hp hd hz hz' hin
    go_wp2_with fail
    refine (HA.out _).mono ?_
    rintro e w2 ⟨rfl,hb2⟩
    go_wp2
    go_roundw
    case rel=>exact ⟨k+1,x',y',by rw [HN.out];omega,rfl,rfl,by go_num,HI.out.1,HI.out.2,E.out,up_trans (up_alloc HB.out _) hb2⟩
    case measure=>simp [intOf];omega
  ·obtain rfl:k=n:=by omega
   have E:=Lib.hid (show F=(x,y,true) by rw [←HM.out,List.drop_of_length_le (by rw [HN.out];omega),allM])
   go_wp2
   go_ret3
   exact ⟨ret3 E.out,hb⟩
theorem stepAll_any (a:Option Addr) (cap:Nat) (c r:Int) (l:List Sp) (w:World) (c1:c≤9223372036854775807) (r1:r≤9223372036854775807) (hm:l.length≤1000000) (ha:l=[]∨∃ b off,a=some ⟨b,off,none⟩∧InS w b off l) :
  Calls Tryz.prog 85 #[.int .i64 c,.int .i64 r,.slice a l.length cap] w fun e w'=>e=.returned (.tuple #[.int .i64 (allS c r l).1,.int .i64 (allS c r l).2.1,.bool (allS c r l).2.2])∧Below w.heap.size w w':=by
 unfold allS
 by_cases h:1≤c∧1≤r
 ·rw [if_pos h];exact stepAll_good a cap c r l w h.1 c1 h.2 r1 hm ha
 ·rw [if_neg h];exact stepAll_bad c r _ w h
theorem refAfter_bad (c r:Int) (v:Value) (w:World) (h:¬ (1≤c∧1≤r)) :
  Calls Tryz.prog 65 #[.int .i64 c,.int .i64 r,v] w fun e w'=>e=.returned (.tuple #[.int .i64 0,.int .i64 0,.bool false])∧Below w.heap.size w w':=by
 by_cases h1:c<1
 ·clear h
  go_enter Tryz.func65,Tryz.ntmps65
  go_wp2
  go_ret3
  exact ⟨rfl,Below.refl _ _⟩
 ·have h2:r<1:=by omega
  clear h
  go_enter Tryz.func65,Tryz.ntmps65
  go_wp2
  go_ret3
  exact ⟨rfl,Below.refl _ _⟩
theorem aft_wrong {c r d n:Int} (h:rightB d n=false):aft c r d n=(0,0,false):=by unfold aft;rw [if_neg (by simp [h])]
theorem aft_col {c r d n:Int} (hc:1≤c) (hr:1≤r) (h:rightB d n=true) (hd:d≤2):aft c r d n=if 2*n≤c then (c-n,r,true) else (0,0,false):=by unfold aft;rw [if_pos ⟨⟨hc,hr⟩,h⟩,if_pos hd]
theorem aft_row {c r d n:Int} (hc:1≤c) (hr:1≤r) (h:rightB d n=true) (hd:¬ d≤2):aft c r d n=if 2*n≤r then (c,r-n,true) else (0,0,false):=by unfold aft;rw [if_pos ⟨⟨hc,hr⟩,h⟩,if_neg hd]
set_option maxHeartbeats 2000000 in
set_option maxRecDepth 100000 in
theorem refAfter_good (a:Option Addr) (cap:Nat) (c r:Int) (l:List Sp) (w:World) (c0:1≤c) (c1:c≤9223372036854775807) (r0:1≤r) (r1:r≤9223372036854775807) (hm:l.length≤1000000) (ha:l=[]∨∃ b off,a=some ⟨b,off,none⟩∧InS w b off l) :
  Calls Tryz.prog 65 #[.int .i64 c,.int .i64 r,.slice a l.length cap] w fun e w'=>e=.returned (.tuple #[.int .i64 (allM c r l).1,.int .i64 (allM c r l).2.1,.bool (allM c r l).2.2])∧Below w.heap.size w w':=by
 obtain ⟨F,hF⟩:∃ F,allM c r l=F:=⟨_,rfl⟩
 rw [hF]
 have HF:=Lib.hid hF
 clear hF
 have HC:=Lib.hid ha;clear ha
 generalize hn:l.length=n at *
 have HN:=Lib.hid hn;clear hn
 go_enter Tryz.func65,Tryz.ntmps65
 go_wp2
 go_loopw [0,1,9] (fun x y i wr=>AllRel l F w x y i wr) (fun _ _ i _=>n-(intOf i).toNat)
 case atStart=>exact ⟨0,c,r,by omega,rfl,rfl,by go_num,⟨c0,c1⟩,⟨r0,r1⟩,HF.out,Below.refl _ _⟩
 case round =>
  obtain ⟨k,x,y,hk,rfl,rfl,rfl,⟨x0,x1⟩,⟨y0,y1⟩,HM,hb⟩:=hrel
  rw [HN.out] at hk
  by_cases hlt:k<n
  ·obtain ⟨p,hp⟩:∃ p,l[k]?=some p:=⟨l[k]'(by rw [HN.out];exact hlt),List.getElem?_eq_getElem _⟩
   obtain ⟨b,off,rfl,hc⟩:=HC.out.resolve_left (by rintro rfl;cases hp)
   obtain ⟨d0,d1,d2⟩:=hc.up hb k p hp
   have hd:=drop_step hp
   have KA:=fun w=>refRight_any p.d p.n p.u w
   have z0:(0:Int)≤(k:Int):=by omega
   have z1:(k:Int)<(n:Int):=by omega
   have HB:=Lib.hid hb
   obtain ⟨pd,pn,pu⟩:=p
   simp only at d0 d1 d2 KA
   clear hb hc hp
   cases hg:rightB pd pn
   ·have E:=Lib.hid (show F=(0,0,false) by rw [←HM.out,hd];exact allM_no (aft_wrong hg))
    rw [hg] at KA
    have HA:=Lib.hid KA
    clear KA hd hg
    go_wp2_with fail
    refine (HA.out _).mono ?_
    rintro e w2 ⟨rfl,hb2⟩
    go_wp2
    go_ret3
    exact ⟨ret3 E.out,up_trans HB.out hb2⟩
   ·obtain ⟨⟨g0,g1⟩,g2,g3⟩:=rightB_true hg
    rw [hg] at KA
    have HA:=Lib.hid KA
    clear KA
    by_cases hs:pd≤2
    ·have ea:=aft_col x0 y0 hg hs
     by_cases hq:2*pn≤x
     ·rw [if_pos hq] at ea
      have E:=Lib.hid (show allM (x-pn) y (l.drop (k+1))=F by rw [←HM.out,hd];exact (allM_yes ea).symm)
      clear hd hg ea
      go_wp2_with fail
      refine (HA.out _).mono ?_
      rintro e w2 ⟨rfl,hb2⟩
      have e0:=bl_cell hb2 d0;have e1:=bl_cell hb2 d1
      have B2:=Lib.hid (up_trans HB.out hb2)
      clear hb2
      go_wp2
      go_roundw
      case rel=>exact ⟨k+1,x-pn,y,by rw [HN.out];omega,rfl,rfl,by go_num,by omega,by omega,E.out,B2.out⟩
      case measure=>simp [intOf];omega
     ·rw [if_neg hq] at ea
      have E:=Lib.hid (show F=(0,0,false) by rw [←HM.out,hd];exact allM_no ea)
      have hq':x-pn<pn:=by omega
      clear hd hg ea
      go_wp2_with fail
      refine (HA.out _).mono ?_
      rintro e w2 ⟨rfl,hb2⟩
      have e0:=bl_cell hb2 d0;have e1:=bl_cell hb2 d1
      have B2:=Lib.hid (up_trans HB.out hb2)
      clear hb2
      go_wp2
      go_ret3
      exact ⟨ret3 E.out,B2.out⟩
    ·have ea:=aft_row x0 y0 hg hs
     by_cases hq:2*pn≤y
     ·rw [if_pos hq] at ea
      have E:=Lib.hid (show allM x (y-pn) (l.drop (k+1))=F by rw [←HM.out,hd];exact (allM_yes ea).symm)
      clear hd hg ea
      go_wp2_with fail
      refine (HA.out _).mono ?_
      rintro e w2 ⟨rfl,hb2⟩
      have e0:=bl_cell hb2 d0;have e1:=bl_cell hb2 d1
      have B2:=Lib.hid (up_trans HB.out hb2)
      clear hb2
      go_wp2
      go_roundw
      case rel=>exact ⟨k+1,x,y-pn,by rw [HN.out];omega,rfl,rfl,by go_num,by omega,by omega,E.out,B2.out⟩
      case measure=>simp [intOf];omega
     ·rw [if_neg hq] at ea
      have E:=Lib.hid (show F=(0,0,false) by rw [←HM.out,hd];exact allM_no ea)
      have hq':y-pn<pn:=by omega
      clear hd hg ea
      go_wp2_with fail
      refine (HA.out _).mono ?_
      rintro e w2 ⟨rfl,hb2⟩
      have e0:=bl_cell hb2 d0;have e1:=bl_cell hb2 d1
      have B2:=Lib.hid (up_trans HB.out hb2)
      clear hb2
      go_wp2
      go_ret3
      exact ⟨ret3 E.out,B2.out⟩
  ·obtain rfl:k=n:=by omega
   have E:=Lib.hid (show F=(x,y,true) by rw [←HM.out,List.drop_of_length_le (by rw [HN.out];omega),allM])
   go_wp2
   go_ret3
   exact ⟨ret3 E.out,hb⟩
theorem refAfter_any (a:Option Addr) (cap:Nat) (c r:Int) (l:List Sp) (w:World) (c1:c≤9223372036854775807) (r1:r≤9223372036854775807) (hm:l.length≤1000000) (ha:l=[]∨∃ b off,a=some ⟨b,off,none⟩∧InS w b off l) :
  Calls Tryz.prog 65 #[.int .i64 c,.int .i64 r,.slice a l.length cap] w fun e w'=>e=.returned (.tuple #[.int .i64 (allS c r l).1,.int .i64 (allS c r l).2.1,.bool (allS c r l).2.2])∧Below w.heap.size w w':=by
 unfold allS
 by_cases h:1≤c∧1≤r
 ·rw [if_pos h];exact refAfter_good a cap c r l w h.1 c1 h.2 r1 hm ha
 ·rw [if_neg h];exact refAfter_bad c r _ w h
def panM (c r:Int):Int:=if (sideB c&&sideB r)=true then c*r else 0
theorem pan_in {c r:Int} (h:(sideB c&&sideB r)=true):1≤c*r∧c*r≤4096:=by
 rw [Bool.and_eq_true] at h
 have h1:=sideB_true h.1
 have h2:=sideB_true h.2
 have h3:c*r≤64*64:=Int.mul_le_mul h1.2 h2.2 (by omega) (by omega)
 have h4:0<c*r:=Int.mul_pos (by omega) (by omega)
 omega
theorem schIsSide_any (n:Int) (w:World) :
  Calls Tryz.prog 62 #[.int .i64 n] w fun e w'=>e=.returned (.bool (sideB n))∧w=w':=by
 have H:=Lib.hid fun w=>in_any n 1 64 w
 go_enter Tryz.func62,Tryz.ntmps62
 go_wp2_with fail
 refine (H.out _).mono ?_
 rintro e w1 ⟨rfl,rfl⟩
 go_wp2
 go_ret
 exact ⟨rfl,rfl⟩
set_option maxHeartbeats 1000000 in
theorem schPanels_any (c r:Int) (a:Option Addr) (n cap:Nat) (w:World) :
  Calls Tryz.prog 47 #[.agg #[.int .i64 c,.int .i64 r,.slice a n cap]] w fun e w'=>e=.returned (.int .i64 (panM c r))∧Below w.heap.size w w':=by
 have K1:=fun w=>schIsSide_any c w
 have K2:=fun w=>schIsSide_any r w
 have hp:panM c r=if (sideB c&&sideB r)=true then c*r else 0:=rfl
 have hi:=@pan_in c r
 obtain ⟨q,hq⟩:∃ q,c*r=q:=⟨_,rfl⟩
 rw [hq] at hp hi
 generalize panM c r=P at *
 generalize sideB c=x at *
 generalize sideB r=y at *
 have H1:=Lib.hid K1;have H2:=Lib.hid K2
 clear K1 K2
 cases x
 ·obtain rfl:P=0:=by simpa using hp
  clear hp hi
  go_enter Tryz.func47,Tryz.ntmps47
  go_wp2_with fail
  refine (H1.out _).mono ?_
  rintro e w1 ⟨rfl,rfl⟩
  go_wp2
  go_ret
  exact ⟨rfl,up_alloc (Below.refl _ _) _⟩
 cases y
 ·obtain rfl:P=0:=by simpa using hp
  clear hp hi
  go_enter Tryz.func47,Tryz.ntmps47
  go_wp2_with (first
   | (go_at_call 62;with_reducible refine (H1.out _).mono ?_;rintro e w' ⟨rfl,rfl⟩)
   | (go_at_call 62;with_reducible refine (H2.out _).mono ?_;rintro e w' ⟨rfl,rfl⟩))
  go_ret
  exact ⟨rfl,up_alloc (Below.refl _ _) _⟩
 ·obtain rfl:P=q:=by simpa using hp
  obtain ⟨q0,q1⟩:=hi rfl
  clear hp
  go_enter Tryz.func47,Tryz.ntmps47
  go_wp2_with (first
   | (go_at_call 62;with_reducible refine (H1.out _).mono ?_;rintro e w' ⟨rfl,rfl⟩)
   | (go_at_call 62;with_reducible refine (H2.out _).mono ?_;rintro e w' ⟨rfl,rfl⟩))
  go_ret
  exact ⟨rfl,up_alloc (Below.refl _ _) _⟩
set_option maxHeartbeats 1000000 in
theorem refPanels_any (c r:Int) (a:Option Addr) (n cap:Nat) (w:World) :
  Calls Tryz.prog 19 #[.agg #[.int .i64 c,.int .i64 r,.slice a n cap]] w fun e w'=>e=.returned (.int .i64 (panM c r))∧Below w.heap.size w w':=by
 have K1:=fun w=>refIn_any c 1 64 w
 have K2:=fun w=>refIn_any r 1 64 w
 have hp:panM c r=if (inB c 1 64&&inB r 1 64)=true then c*r else 0:=rfl
 have hi:(inB c 1 64&&inB r 1 64)=true→_:=@pan_in c r
 obtain ⟨q,hq⟩:∃ q,c*r=q:=⟨_,rfl⟩
 rw [hq] at hp hi
 generalize panM c r=P at *
 generalize inB c 1 64=x at *
 generalize inB r 1 64=y at *
 have H1:=Lib.hid K1;have H2:=Lib.hid K2
 clear K1 K2
 cases x
 ·obtain rfl:P=0:=by simpa using hp
  clear hp hi
  go_enter Tryz.func19,Tryz.ntmps19
  go_wp2_with fail
  refine (H1.out _).mono ?_
  rintro e w1 ⟨rfl,rfl⟩
  go_wp2
  go_ret
  exact ⟨rfl,up_alloc (Below.refl _ _) _⟩
 cases y
 ·obtain rfl:P=0:=by simpa using hp
  clear hp hi
  go_enter Tryz.func19,Tryz.ntmps19
  go_wp2_with (first
   | (go_at_call 32;with_reducible refine (H1.out _).mono ?_;rintro e w' ⟨rfl,rfl⟩)
   | (go_at_call 32;with_reducible refine (H2.out _).mono ?_;rintro e w' ⟨rfl,rfl⟩))
  go_ret
  exact ⟨rfl,up_alloc (Below.refl _ _) _⟩
 ·obtain rfl:P=q:=by simpa using hp
  obtain ⟨q0,q1⟩:=hi rfl
  clear hp
  go_enter Tryz.func19,Tryz.ntmps19
  go_wp2_with (first
   | (go_at_call 32;with_reducible refine (H1.out _).mono ?_;rintro e w' ⟨rfl,rfl⟩)
   | (go_at_call 32;with_reducible refine (H2.out _).mono ?_;rintro e w' ⟨rfl,rfl⟩))
  go_ret
  exact ⟨rfl,up_alloc (Below.refl _ _) _⟩
def rightM (s:Sc):Bool:=(decide (1≤panM s.c s.r)&&decide (panM s.c s.r≤64))&&(decide (s.l.length≤6)&&((allS s.c s.r s.l).2.2&&(((allS s.c s.r s.l).1==1)&&((allS s.c s.r s.l).2.1==1))))
set_option maxHeartbeats 1000000 in
theorem schRight_core (c r x y p:Int) (z:Bool) (a:Option Addr) (n cap:Nat) (w:World) (u1 u2 u3 u4:Bool) (e1:decide ((6:Int)<(n:Int))=u1) (e3:(x==1)=u3) (e4:(y==1)=u4)
  (KP:∀ w,Calls Tryz.prog 47 #[.agg #[.int .i64 c,.int .i64 r,.slice a n cap]] w fun e w'=>e=.returned (.int .i64 p)∧Below w.heap.size w w')
  (KI:∀ w,Calls Tryz.prog 36 #[.int .i64 p,.int .i64 1,.int .i64 64] w fun e w'=>e=.returned (.bool u2)∧w=w')
  (KA:∀ w1,Below w.heap.size w w1→Calls Tryz.prog 85 #[.int .i64 c,.int .i64 r,.slice a n cap] w1 fun e w'=>e=.returned (.tuple #[.int .i64 x,.int .i64 y,.bool z])∧Below w1.heap.size w1 w') :
  Calls Tryz.prog 75 #[.agg #[.int .i64 c,.int .i64 r,.slice a n cap]] w fun e w'=>e=.returned (.bool (u2&&(!u1&&(z&&(u3&&u4)))))∧Below w.heap.size w w':=by
 have HP:=Lib.hid KP;have HI:=Lib.hid KI;have HA:=Lib.hid KA
 clear KP KI KA
 cases u2
 ·clear e1 e3 e4
  go_enter Tryz.func75,Tryz.ntmps75
  go_wp2_with fail
  refine (HP.out _).mono ?_
  rintro e w1 ⟨rfl,hb⟩
  have B1:=Lib.hid (up_trans (up_alloc (Below.refl _ w) _) hb)
  clear hb
  go_wp2_with fail
  refine (HI.out _).mono ?_
  rintro e w2 ⟨rfl,rfl⟩
  go_wp2
  go_ret
  exact ⟨rfl,B1.out⟩
 cases u1
 ·go_enter Tryz.func75,Tryz.ntmps75
  go_wp2_with fail
  refine (HP.out _).mono ?_
  rintro e w1 ⟨rfl,hb⟩
  have A:=(Bx.new w 26 [.int .i64 c,.int .i64 r,.slice a n cap]).up hb
  have B1:=Lib.hid (up_trans (up_alloc (Below.refl _ w) _) hb)
  clear hb
  have a0:=A.cell 0 rfl;have a1:=A.cell 1 rfl;have a2:=A.cell 2 rfl
  go_wp2_with fail
  refine (HI.out _).mono ?_
  rintro e w2 ⟨rfl,rfl⟩
  go_wp2_with fail
  refine (HA.out _ B1.out).mono ?_
  rintro e w3 ⟨rfl,hb⟩
  have B3:=Lib.hid (up_trans B1.out hb)
  clear hb
  cases z
  ·clear e3 e4
   go_wp2
   go_ret
   exact ⟨rfl,B3.out⟩
  cases u3
  ·clear e4
   go_wp2
   go_ret
   exact ⟨rfl,B3.out⟩
  ·go_wp2
   go_ret
   exact ⟨rfl,B3.out⟩
 ·clear e3 e4
  go_enter Tryz.func75,Tryz.ntmps75
  go_wp2_with fail
  refine (HP.out _).mono ?_
  rintro e w1 ⟨rfl,hb⟩
  have A:=(Bx.new w 26 [.int .i64 c,.int .i64 r,.slice a n cap]).up hb
  have B1:=Lib.hid (up_trans (up_alloc (Below.refl _ w) _) hb)
  clear hb
  have a2:=A.cell 2 rfl
  go_wp2_with fail
  refine (HI.out _).mono ?_
  rintro e w2 ⟨rfl,rfl⟩
  go_wp2
  go_ret
  exact ⟨rfl,B1.out⟩
theorem len6 (n:Nat):decide ((6:Int)<(n:Int))=!decide (n≤6):=by rw [Bool.eq_iff_iff];simp;omega
def InL (w:World) (a:Option Addr) (l:List Sp):Prop:=l=[]∨∃ b off,a=some ⟨b,off,none⟩∧InS w b off l
theorem InL.up {w w':World} {a:Option Addr} {l:List Sp} (h:InL w a l) (hb:Below w.heap.size w w'):InL w' a l:=h.imp id fun ⟨b,off,e,h⟩=>⟨b,off,e,h.up hb⟩
theorem schRight_any (s:Sc) (a:Option Addr) (cap:Nat) (w:World) (hc:s.c≤9223372036854775807) (hr:s.r≤9223372036854775807) (hl:s.l.length≤1000000) (h:InL w a s.l) :
  Calls Tryz.prog 75 #[.agg #[.int .i64 s.c,.int .i64 s.r,.slice a s.l.length cap]] w fun e w'=>e=.returned (.bool (rightM s))∧Below w.heap.size w w':=by
 have K:=schRight_core s.c s.r (allS s.c s.r s.l).1 (allS s.c s.r s.l).2.1 (panM s.c s.r) (allS s.c s.r s.l).2.2 a s.l.length cap w _ _ _ _ rfl rfl rfl (fun w=>schPanels_any s.c s.r a s.l.length cap w) (fun w=>in_any _ 1 64 w) (fun w1 hb=>stepAll_any a cap s.c s.r s.l w1 hc hr hl (h.up hb))
 rw [len6,Bool.not_not] at K
 exact K
set_option maxHeartbeats 1000000 in
theorem refFine_core (c r x y p:Int) (z:Bool) (a:Option Addr) (n cap:Nat) (w:World) (u1 u2 u3 u4:Bool) (e1:decide ((n:Int)≤(6:Int))=u1) (e3:(x==1)=u3) (e4:(y==1)=u4)
  (KP:∀ w,Calls Tryz.prog 19 #[.agg #[.int .i64 c,.int .i64 r,.slice a n cap]] w fun e w'=>e=.returned (.int .i64 p)∧Below w.heap.size w w')
  (KI:∀ w,Calls Tryz.prog 32 #[.int .i64 p,.int .i64 1,.int .i64 64] w fun e w'=>e=.returned (.bool u2)∧w'=w)
  (KA:∀ w1,Below w.heap.size w w1→Calls Tryz.prog 65 #[.int .i64 c,.int .i64 r,.slice a n cap] w1 fun e w'=>e=.returned (.tuple #[.int .i64 x,.int .i64 y,.bool z])∧Below w1.heap.size w1 w') :
  Calls Tryz.prog 49 #[.agg #[.int .i64 c,.int .i64 r,.slice a n cap]] w fun e w'=>e=.returned (.bool (u2&&(u1&&(z&&(u3&&u4)))))∧Below w.heap.size w w':=by
 have HP:=Lib.hid KP;have HI:=Lib.hid KI;have HA:=Lib.hid KA
 clear KP KI KA
 go_enter Tryz.func49,Tryz.ntmps49
 go_wp2_with fail
 refine (HA.out _ (up_alloc (Below.refl _ _) _)).mono ?_
 rintro e w1 ⟨rfl,hb⟩
 have A:=(Bx.new w 26 [.int .i64 c,.int .i64 r,.slice a n cap]).up hb
 have B1:=Lib.hid (up_trans (up_alloc (Below.refl _ w) _) hb)
 clear hb
 have a0:=A.cell 0 rfl;have a1:=A.cell 1 rfl;have a2:=A.cell 2 rfl
 cases z
 ·clear e1 e3 e4
  go_wp2
  go_ret
  exact ⟨by simp,B1.out⟩
 cases u3
 ·clear e1 e4
  go_wp2
  go_ret
  exact ⟨by simp,B1.out⟩
 cases u4
 ·clear e1
  go_wp2
  go_ret
  exact ⟨by simp,B1.out⟩
 go_wp2_with fail
 refine (HP.out _).mono ?_
 rintro e w2 ⟨rfl,hb⟩
 have A2:=A.up hb
 have B2:=Lib.hid (up_trans B1.out hb)
 clear hb a0 a1 a2
 have a2:=A2.cell 2 rfl
 go_wp2_with fail
 refine (HI.out _).mono ?_
 rintro e w3 ⟨rfl,rfl⟩
 cases u2
 ·clear e1
  go_wp2
  go_ret
  exact ⟨by simp,B2.out⟩
 ·go_wp2
  go_ret
  exact ⟨by simp,B2.out⟩
theorem len6' (n:Nat):decide ((n:Int)≤(6:Int))=decide (n≤6):=by rw [Bool.eq_iff_iff];simp;omega
theorem refFine_any (s:Sc) (a:Option Addr) (cap:Nat) (w:World) (hc:s.c≤9223372036854775807) (hr:s.r≤9223372036854775807) (hl:s.l.length≤1000000) (h:InL w a s.l) :
  Calls Tryz.prog 49 #[.agg #[.int .i64 s.c,.int .i64 s.r,.slice a s.l.length cap]] w fun e w'=>e=.returned (.bool (rightM s))∧Below w.heap.size w w':=by
 have K:=refFine_core s.c s.r (allS s.c s.r s.l).1 (allS s.c s.r s.l).2.1 (panM s.c s.r) (allS s.c s.r s.l).2.2 a s.l.length cap w _ _ _ _ rfl rfl rfl (fun w=>refPanels_any s.c s.r a s.l.length cap w) (fun w=>refIn_any _ 1 64 w) (fun w1 hb=>refAfter_any a cap s.c s.r s.l w1 hc hr hl (h.up hb))
 rw [len6'] at K
 exact K
end Go.Proofs.YtbbjileignefbaaGreatDoor
namespace Go.Proofs
open Go.Shelf
def Tryz.lays104_ren:Go.Shelf.Ren:=⟨fun | 104=>103 | 211=>115 | 207=>131 | n=>n,fun | 9=>9 | 4=>4 | 24=>134 | 3=>3 | n=>n,fun | n=>n⟩
theorem Tryz.lays104:Go.Proofs.Lays.n104 Tryz.prog Tryz.lays104_ren:={
 mixed:=by kernel_rfl
 f104:=Tryz.func103.trans (congrArg some (by kernel_rfl))
 f207:=Tryz.func131.trans (congrArg some (by kernel_rfl))
 f211:=Tryz.func115.trans (congrArg some (by kernel_rfl))
 t3:=Tryz.underlying3
 a3:=Tryz.isAgg3
 z3:=Tryz.sizeOf3
 v3:=Tryz.zeroValue3
 t4:=Tryz.underlying4
 a4:=Tryz.isAgg4
 z4:=Tryz.sizeOf4
 v4:=Tryz.zeroValue4
 t9:=Tryz.underlying9
 a9:=Tryz.isAgg9
 z9:=Tryz.sizeOf9
 v9:=Tryz.zeroValue9
 t24:=Tryz.underlying134
 a24:=Tryz.isAgg134
 z24:=Tryz.sizeOf134
 v24:=Tryz.zeroValue134 }
open Go.RowKit in
theorem Tryz.strings_CutSuffix (s p:ByteArray) (w:World) (hs:s.size≤9223372036854775807) :
  Calls Tryz.prog 103 #[.string s,.string p] w fun e w'=>e=.returned (.tuple #[.string ⟨(Lib.trimSuffix s.data.toList p.data.toList).toArray⟩,.bool (Lib.hasSuffix s.data.toList p.data.toList)])∧w'=w:=Any.strings_CutSuffix Tryz.lays104 s p w hs
def Tryz.laysM171_ren:Go.Shelf.Ren:=⟨fun | 171=>130 | 243=>152 | 246=>164 | 283=>169 | 284=>170 | 285=>171 | 286=>172 | 129=>74 | 317=>175 | 318=>176 | 319=>177 | 320=>178 | 337=>180 | 338=>181 | n=>n,fun | 3=>3 | 9=>9 | 2=>2 | 4=>4 | 171=>211 | 0=>0 | 53=>70 | 37=>182 | 5=>5 | 173=>213 | 212=>218 | 51=>178 | 20=>20 | 213=>219 | 46=>88 | 232=>222 | 233=>223 | n=>n,fun | 17=>7 | 18=>8 | 19=>9 | n=>n⟩
theorem Tryz.laysM171:Go.Proofs.LaysM.n171 Tryz.prog Tryz.laysM171_ren:={
 mixed:=by kernel_rfl
 f129:=Tryz.func74.trans (congrArg some (by kernel_rfl))
 f171:=Tryz.func130.trans (congrArg some (by kernel_rfl))
 f243:=Tryz.func152.trans (congrArg some (by kernel_rfl))
 f246:=Tryz.func164.trans (congrArg some (by kernel_rfl))
 f283:=Tryz.func169.trans (congrArg some (by kernel_rfl))
 f284:=Tryz.func170.trans (congrArg some (by kernel_rfl))
 f285:=Tryz.func171.trans (congrArg some (by kernel_rfl))
 f286:=Tryz.func172.trans (congrArg some (by kernel_rfl))
 f317:=Tryz.func175.trans (congrArg some (by kernel_rfl))
 f318:=Tryz.func176.trans (congrArg some (by kernel_rfl))
 f319:=Tryz.func177.trans (congrArg some (by kernel_rfl))
 f320:=Tryz.func178.trans (congrArg some (by kernel_rfl))
 f337:=Tryz.func180.trans (congrArg some (by kernel_rfl))
 f338:=Tryz.func181.trans (congrArg some (by kernel_rfl))
 t0:=Tryz.underlying0
 a0:=Tryz.isAgg0
 z0:=Tryz.sizeOf0
 v0:=Tryz.zeroValue0
 t2:=Tryz.underlying2
 a2:=Tryz.isAgg2
 z2:=Tryz.sizeOf2
 v2:=Tryz.zeroValue2
 t3:=Tryz.underlying3
 a3:=Tryz.isAgg3
 z3:=Tryz.sizeOf3
 v3:=Tryz.zeroValue3
 t4:=Tryz.underlying4
 a4:=Tryz.isAgg4
 z4:=Tryz.sizeOf4
 v4:=Tryz.zeroValue4
 t5:=Tryz.underlying5
 a5:=Tryz.isAgg5
 z5:=Tryz.sizeOf5
 v5:=Tryz.zeroValue5
 t9:=Tryz.underlying9
 a9:=Tryz.isAgg9
 z9:=Tryz.sizeOf9
 v9:=Tryz.zeroValue9
 t20:=Tryz.underlying20
 a20:=Tryz.isAgg20
 z20:=Tryz.sizeOf20
 v20:=Tryz.zeroValue20
 t37:=Tryz.underlying182
 a37:=Tryz.isAgg182
 z37:=Tryz.sizeOf182
 v37:=Tryz.zeroValue182
 t46:=Tryz.underlying88
 a46:=Tryz.isAgg88
 z46:=Tryz.sizeOf88
 v46:=Tryz.zeroValue88
 t51:=Tryz.underlying178
 a51:=Tryz.isAgg178
 z51:=Tryz.sizeOf178
 v51:=Tryz.zeroValue178
 t53:=Tryz.underlying70
 a53:=Tryz.isAgg70
 z53:=Tryz.sizeOf70
 v53:=Tryz.zeroValue70
 t171:=Tryz.underlying211
 a171:=Tryz.isAgg211
 z171:=Tryz.sizeOf211
 v171:=Tryz.zeroValue211
 t173:=Tryz.underlying213
 a173:=Tryz.isAgg213
 z173:=Tryz.sizeOf213
 v173:=Tryz.zeroValue213
 t212:=Tryz.underlying218
 a212:=Tryz.isAgg218
 z212:=Tryz.sizeOf218
 v212:=Tryz.zeroValue218
 t213:=Tryz.underlying219
 a213:=Tryz.isAgg219
 z213:=Tryz.sizeOf219
 t232:=Tryz.underlying222
 a232:=Tryz.isAgg222
 z232:=Tryz.sizeOf222
 v232:=Tryz.zeroValue222
 t233:=Tryz.underlying223
 a233:=Tryz.isAgg223
 z233:=Tryz.sizeOf223
 v233:=Tryz.zeroValue223
 g17:=by kernel_rfl
 g18:=by kernel_rfl
 g19:=by kernel_rfl
 i0:=by kernel_rfl
 i2:=by kernel_rfl
 i3:=by kernel_rfl
 i4:=by kernel_rfl
 i5:=by kernel_rfl
 i9:=by kernel_rfl
 i20:=by kernel_rfl
 i37:=by kernel_rfl
 i46:=by kernel_rfl
 i51:=by kernel_rfl
 i53:=by kernel_rfl
 i171:=by kernel_rfl
 i173:=by kernel_rfl
 i212:=by kernel_rfl
 i232:=by kernel_rfl
 i233:=by kernel_rfl
 m17:=by kernel_rfl
 m18:=by kernel_rfl
 m19:=by kernel_rfl }
open Go.RowKit Go.Sort Go.Lib in
theorem Tryz.strconv_Itoa (n : Int) (h0 : -9223372036854775808 ≤ n) (h1 : n ≤ 9223372036854775807) (w : World) (htab : Lib.TabIs Tryz.prog w "internal/strconv.uint64pow10" .u64 Lib.pow10Tab) :
  Calls Tryz.prog 130 #[.int .i64 n] w fun e w'=>e=.returned (.string ⟨(Lib.itoa n).toArray⟩)∧∃ k os,w'=grow (w.drewN k) os:=Any.strconv_Itoa Tryz.laysM171 n h0 h1 w htab
def Tryz.laysC172_ren:Go.Shelf.Ren:=⟨fun | 172=>112 | 244=>128 | 245=>129 | 247=>147 | 279=>148 | 280=>149 | 281=>150 | 282=>151 | 287=>161 | 316=>162 | 171=>130 | 205=>163 | 321=>167 | 322=>168 | 243=>152 | 246=>164 | 283=>169 | 284=>170 | 285=>171 | 286=>172 | 129=>74 | 317=>175 | 318=>176 | 319=>177 | 320=>178 | 337=>180 | 338=>181 | n=>n,fun | 9=>9 | 3=>3 | 75=>90 | 76=>145 | 4=>4 | 5=>5 | 167=>181 | 37=>182 | 0=>0 | 85=>183 | 2=>2 | 168=>185 | 53=>70 | 175=>197 | 46=>88 | 210=>201 | 127=>207 | 145=>210 | 143=>208 | 21=>21 | 171=>211 | 173=>213 | 212=>218 | 51=>178 | 20=>20 | 213=>219 | 232=>222 | 233=>223 | 80=>224 | n=>n,fun | 15=>5 | 16=>6 | 17=>7 | 18=>8 | 19=>9 | n=>n⟩
theorem Tryz.laysC172:Go.Proofs.LaysC.n172 Tryz.prog Tryz.laysC172_ren:={
 mixed:=by kernel_rfl
 f129:=Tryz.func74.trans (congrArg some (by kernel_rfl))
 f171:=Tryz.func130.trans (congrArg some (by kernel_rfl))
 f172:=Tryz.func112.trans (congrArg some (by kernel_rfl))
 f205:=Tryz.func163.trans (congrArg some (by kernel_rfl))
 f243:=Tryz.func152.trans (congrArg some (by kernel_rfl))
 f244:=Tryz.func128.trans (congrArg some (by kernel_rfl))
 f245:=Tryz.func129.trans (congrArg some (by kernel_rfl))
 f246:=Tryz.func164.trans (congrArg some (by kernel_rfl))
 f247:=Tryz.func147.trans (congrArg some (by kernel_rfl))
 f279:=Tryz.func148.trans (congrArg some (by kernel_rfl))
 f280:=Tryz.func149.trans (congrArg some (by kernel_rfl))
 f281:=Tryz.func150.trans (congrArg some (by kernel_rfl))
 f282:=Tryz.func151.trans (congrArg some (by kernel_rfl))
 f283:=Tryz.func169.trans (congrArg some (by kernel_rfl))
 f284:=Tryz.func170.trans (congrArg some (by kernel_rfl))
 f285:=Tryz.func171.trans (congrArg some (by kernel_rfl))
 f286:=Tryz.func172.trans (congrArg some (by kernel_rfl))
 f287:=Tryz.func161.trans (congrArg some (by kernel_rfl))
 f316:=Tryz.func162.trans (congrArg some (by kernel_rfl))
 f317:=Tryz.func175.trans (congrArg some (by kernel_rfl))
 f318:=Tryz.func176.trans (congrArg some (by kernel_rfl))
 f319:=Tryz.func177.trans (congrArg some (by kernel_rfl))
 f320:=Tryz.func178.trans (congrArg some (by kernel_rfl))
 f321:=Tryz.func167.trans (congrArg some (by kernel_rfl))
 f322:=Tryz.func168.trans (congrArg some (by kernel_rfl))
 f337:=Tryz.func180.trans (congrArg some (by kernel_rfl))
 f338:=Tryz.func181.trans (congrArg some (by kernel_rfl))
 t0:=Tryz.underlying0
 a0:=Tryz.isAgg0
 z0:=Tryz.sizeOf0
 v0:=Tryz.zeroValue0
 t2:=Tryz.underlying2
 a2:=Tryz.isAgg2
 z2:=Tryz.sizeOf2
 v2:=Tryz.zeroValue2
 t3:=Tryz.underlying3
 a3:=Tryz.isAgg3
 z3:=Tryz.sizeOf3
 v3:=Tryz.zeroValue3
 t4:=Tryz.underlying4
 a4:=Tryz.isAgg4
 z4:=Tryz.sizeOf4
 v4:=Tryz.zeroValue4
 t5:=Tryz.underlying5
 a5:=Tryz.isAgg5
 z5:=Tryz.sizeOf5
 v5:=Tryz.zeroValue5
 t9:=Tryz.underlying9
 a9:=Tryz.isAgg9
 z9:=Tryz.sizeOf9
 v9:=Tryz.zeroValue9
 t20:=Tryz.underlying20
 a20:=Tryz.isAgg20
 z20:=Tryz.sizeOf20
 v20:=Tryz.zeroValue20
 t21:=Tryz.underlying21
 a21:=Tryz.isAgg21
 z21:=Tryz.sizeOf21
 v21:=Tryz.zeroValue21
 t37:=Tryz.underlying182
 a37:=Tryz.isAgg182
 z37:=Tryz.sizeOf182
 v37:=Tryz.zeroValue182
 t46:=Tryz.underlying88
 a46:=Tryz.isAgg88
 z46:=Tryz.sizeOf88
 v46:=Tryz.zeroValue88
 t51:=Tryz.underlying178
 a51:=Tryz.isAgg178
 z51:=Tryz.sizeOf178
 v51:=Tryz.zeroValue178
 t53:=Tryz.underlying70
 a53:=Tryz.isAgg70
 z53:=Tryz.sizeOf70
 v53:=Tryz.zeroValue70
 t75:=Tryz.underlying90
 a75:=Tryz.isAgg90
 z75:=Tryz.sizeOf90
 v75:=Tryz.zeroValue90
 t76:=Tryz.underlying145
 a76:=Tryz.isAgg145
 z76:=Tryz.sizeOf145
 v76:=Tryz.zeroValue145
 t85:=Tryz.underlying183
 a85:=Tryz.isAgg183
 z85:=Tryz.sizeOf183
 v85:=Tryz.zeroValue183
 t127:=Tryz.underlying207
 a127:=Tryz.isAgg207
 z127:=Tryz.sizeOf207
 v127:=Tryz.zeroValue207
 t143:=Tryz.underlying208
 a143:=Tryz.isAgg208
 z143:=Tryz.sizeOf208
 v143:=Tryz.zeroValue208
 t145:=Tryz.underlying210
 a145:=Tryz.isAgg210
 z145:=Tryz.sizeOf210
 v145:=Tryz.zeroValue210
 t167:=Tryz.underlying181
 a167:=Tryz.isAgg181
 z167:=Tryz.sizeOf181
 v167:=Tryz.zeroValue181
 t168:=Tryz.underlying185
 a168:=Tryz.isAgg185
 z168:=Tryz.sizeOf185
 v168:=Tryz.zeroValue185
 t171:=Tryz.underlying211
 a171:=Tryz.isAgg211
 z171:=Tryz.sizeOf211
 v171:=Tryz.zeroValue211
 t173:=Tryz.underlying213
 a173:=Tryz.isAgg213
 z173:=Tryz.sizeOf213
 v173:=Tryz.zeroValue213
 t175:=Tryz.underlying197
 a175:=Tryz.isAgg197
 z175:=Tryz.sizeOf197
 v175:=Tryz.zeroValue197
 t210:=Tryz.underlying201
 a210:=Tryz.isAgg201
 z210:=Tryz.sizeOf201
 v210:=Tryz.zeroValue201
 t212:=Tryz.underlying218
 a212:=Tryz.isAgg218
 z212:=Tryz.sizeOf218
 v212:=Tryz.zeroValue218
 t213:=Tryz.underlying219
 a213:=Tryz.isAgg219
 z213:=Tryz.sizeOf219
 t232:=Tryz.underlying222
 a232:=Tryz.isAgg222
 z232:=Tryz.sizeOf222
 v232:=Tryz.zeroValue222
 t233:=Tryz.underlying223
 a233:=Tryz.isAgg223
 z233:=Tryz.sizeOf223
 v233:=Tryz.zeroValue223
 g15:=by kernel_rfl
 g16:=by kernel_rfl
 g17:=by kernel_rfl
 g18:=by kernel_rfl
 g19:=by kernel_rfl
 t80:=Tryz.underlying224
 a80:=Tryz.isAgg224
 z80:=Tryz.sizeOf224
 v80:=Tryz.zeroValue224
 i0:=by kernel_rfl
 i2:=by kernel_rfl
 i3:=by kernel_rfl
 i4:=by kernel_rfl
 i5:=by kernel_rfl
 i9:=by kernel_rfl
 i20:=by kernel_rfl
 i21:=by kernel_rfl
 i37:=by kernel_rfl
 i46:=by kernel_rfl
 i51:=by kernel_rfl
 i53:=by kernel_rfl
 i75:=by kernel_rfl
 i76:=by kernel_rfl
 i80:=by kernel_rfl
 i85:=by kernel_rfl
 i127:=by kernel_rfl
 i143:=by kernel_rfl
 i145:=by kernel_rfl
 i167:=by kernel_rfl
 i168:=by kernel_rfl
 i171:=by kernel_rfl
 i173:=by kernel_rfl
 i175:=by kernel_rfl
 i210:=by kernel_rfl
 i212:=by kernel_rfl
 i232:=by kernel_rfl
 i233:=by kernel_rfl
 m15:=by kernel_rfl
 m16:=by kernel_rfl
 m17:=by kernel_rfl
 m18:=by kernel_rfl
 m19:=by kernel_rfl
 c0:=by kernel_rfl
 c2:=by kernel_rfl
 c3:=by kernel_rfl
 c4:=by kernel_rfl
 c5:=by kernel_rfl
 c9:=by kernel_rfl
 c20:=by kernel_rfl
 c21:=by kernel_rfl
 c37:=by kernel_rfl
 c46:=by kernel_rfl
 c51:=by kernel_rfl
 c53:=by kernel_rfl
 c75:=by kernel_rfl
 c76:=by kernel_rfl
 c80:=by kernel_rfl
 c85:=by kernel_rfl
 c127:=by kernel_rfl
 c143:=by kernel_rfl
 c145:=by kernel_rfl
 c167:=by kernel_rfl
 c168:=by kernel_rfl
 c171:=by kernel_rfl
 c173:=by kernel_rfl
 c175:=by kernel_rfl
 c210:=by kernel_rfl
 c212:=by kernel_rfl
 c213:=by kernel_rfl
 c232:=by kernel_rfl
 c233:=by kernel_rfl }
open Go.RowKit in
theorem Tryz.strconv_Atoi_ok (s:ByteArray) (hmax:s.size≤9223372036854775806) (v:Int) (h:Lib.atoiAll s.data.toList=.ok v) (w:World) :
  Calls Tryz.prog 112 #[.string s] w fun e w'=>e=.returned (.tuple #[.int .i64 v,.nilIface])∧(w'=w∨∃ t,w'=Lib.bytesWorld w 5 t):=Any.strconv_Atoi_ok Tryz.laysC172 s hmax v h w
open Go.RowKit in
theorem Tryz.strconv_Atoi_range_var (s : ByteArray) (hlim : s.size ≤ 281474976710656) (h : Lib.atoiAll s.data.toList = .range) (tp : TypeId) (p : Value) (w : World) (hvar : w.var? Tryz.prog "strconv.ErrRange" = some #[.iface tp p]) :
  Calls Tryz.prog 112 #[.string s] w fun e w'=>∃ N,e=.returned (.tuple #[.int .i64 (Lib.atoiSat s.data.toList),.iface 185 (.pointer (some ⟨N,0,none⟩))])∧w.heap.size≤N∧w'.heap[N]?=some (.cells #[.string ⟨#[65,116,111,105]⟩,.string s,.iface tp p] 201 (0,0))∧Below w.heap.size w w':=Any.strconv_Atoi_range_var Tryz.laysC172 s hlim h tp p w hvar
def Tryz.lays145_ren:Go.Shelf.Ren:=⟨fun | 145=>88 | 220=>100 | 219=>111 | 217=>124 | 225=>125 | 224=>126 | 267=>127 | 266=>145 | 314=>146 | n=>n,fun | 9=>9 | 4=>4 | 59=>121 | 3=>3 | 5=>5 | 46=>88 | 146=>179 | 51=>178 | n=>n,fun | 1=>2 | n=>n⟩
theorem Tryz.lays145:Go.Proofs.Lays.n145 Tryz.prog Tryz.lays145_ren:={
 mixed:=by kernel_rfl
 f145:=Tryz.func88.trans (congrArg some (by kernel_rfl))
 f217:=Tryz.func124.trans (congrArg some (by kernel_rfl))
 f219:=Tryz.func111.trans (congrArg some (by kernel_rfl))
 f220:=Tryz.func100.trans (congrArg some (by kernel_rfl))
 f224:=Tryz.func126.trans (congrArg some (by kernel_rfl))
 f225:=Tryz.func125.trans (congrArg some (by kernel_rfl))
 f266:=Tryz.func145.trans (congrArg some (by kernel_rfl))
 f267:=Tryz.func127.trans (congrArg some (by kernel_rfl))
 f314:=Tryz.func146.trans (congrArg some (by kernel_rfl))
 t3:=Tryz.underlying3
 a3:=Tryz.isAgg3
 z3:=Tryz.sizeOf3
 v3:=Tryz.zeroValue3
 t4:=Tryz.underlying4
 a4:=Tryz.isAgg4
 z4:=Tryz.sizeOf4
 v4:=Tryz.zeroValue4
 t5:=Tryz.underlying5
 a5:=Tryz.isAgg5
 z5:=Tryz.sizeOf5
 v5:=Tryz.zeroValue5
 t9:=Tryz.underlying9
 a9:=Tryz.isAgg9
 z9:=Tryz.sizeOf9
 v9:=Tryz.zeroValue9
 t46:=Tryz.underlying88
 a46:=Tryz.isAgg88
 z46:=Tryz.sizeOf88
 v46:=Tryz.zeroValue88
 t51:=Tryz.underlying178
 a51:=Tryz.isAgg178
 z51:=Tryz.sizeOf178
 v51:=Tryz.zeroValue178
 t59:=Tryz.underlying121
 a59:=Tryz.isAgg121
 z59:=Tryz.sizeOf121
 v59:=Tryz.zeroValue121
 t146:=Tryz.underlying179
 a146:=Tryz.isAgg179
 z146:=Tryz.sizeOf179
 v146:=Tryz.zeroValue179
 g1:=by kernel_rfl }
open Go.RowKit Go.Lib in
theorem Tryz.strings_Cut (s sep:ByteArray) (m:Int) (w:World) (hs:s.size<4294967281) (hm:w.cell? ⟨2,0,none⟩=some (.int .i64 m)) :
  Calls Tryz.prog 88 #[.string s,.string sep] w fun e w'=>e=.returned (.tuple #[.string ⟨(Lib.cut s.data.toList sep.data.toList).1.toArray⟩,.string ⟨(Lib.cut s.data.toList sep.data.toList).2.1.toArray⟩,.bool (Lib.cut s.data.toList sep.data.toList).2.2])∧∃ n,w'=w.drewN n:=Any.strings_Cut Tryz.lays145 s sep m w hs hm
def Tryz.lays146_ren:Go.Shelf.Ren:=⟨fun | 146=>79 | 221=>91 | 268=>104 | 138=>105 | 143=>106 | 195=>116 | 197=>117 | 218=>118 | 219=>111 | 260=>132 | 217=>124 | 225=>125 | 224=>126 | 267=>127 | 266=>145 | 314=>146 | n=>n,fun | 9=>9 | 31=>27 | 3=>3 | 4=>4 | 0=>0 | 105=>149 | 21=>21 | 5=>5 | 46=>88 | 119=>188 | 139=>191 | 138=>190 | 146=>179 | 51=>178 | n=>n,fun | 1=>2 | 3=>3 | 4=>4 | n=>n⟩
theorem Tryz.lays146:Go.Proofs.Lays.n146 Tryz.prog Tryz.lays146_ren:={
 mixed:=by kernel_rfl
 f138:=Tryz.func105.trans (congrArg some (by kernel_rfl))
 f143:=Tryz.func106.trans (congrArg some (by kernel_rfl))
 f146:=Tryz.func79.trans (congrArg some (by kernel_rfl))
 f195:=Tryz.func116.trans (congrArg some (by kernel_rfl))
 f197:=Tryz.func117.trans (congrArg some (by kernel_rfl))
 f217:=Tryz.func124.trans (congrArg some (by kernel_rfl))
 f218:=Tryz.func118.trans (congrArg some (by kernel_rfl))
 f219:=Tryz.func111.trans (congrArg some (by kernel_rfl))
 f221:=Tryz.func91.trans (congrArg some (by kernel_rfl))
 f224:=Tryz.func126.trans (congrArg some (by kernel_rfl))
 f225:=Tryz.func125.trans (congrArg some (by kernel_rfl))
 f260:=Tryz.func132.trans (congrArg some (by kernel_rfl))
 f266:=Tryz.func145.trans (congrArg some (by kernel_rfl))
 f267:=Tryz.func127.trans (congrArg some (by kernel_rfl))
 f268:=Tryz.func104.trans (congrArg some (by kernel_rfl))
 f314:=Tryz.func146.trans (congrArg some (by kernel_rfl))
 t0:=Tryz.underlying0
 a0:=Tryz.isAgg0
 z0:=Tryz.sizeOf0
 v0:=Tryz.zeroValue0
 t3:=Tryz.underlying3
 a3:=Tryz.isAgg3
 z3:=Tryz.sizeOf3
 v3:=Tryz.zeroValue3
 t4:=Tryz.underlying4
 a4:=Tryz.isAgg4
 z4:=Tryz.sizeOf4
 v4:=Tryz.zeroValue4
 t5:=Tryz.underlying5
 a5:=Tryz.isAgg5
 z5:=Tryz.sizeOf5
 v5:=Tryz.zeroValue5
 t9:=Tryz.underlying9
 a9:=Tryz.isAgg9
 z9:=Tryz.sizeOf9
 v9:=Tryz.zeroValue9
 t21:=Tryz.underlying21
 a21:=Tryz.isAgg21
 z21:=Tryz.sizeOf21
 v21:=Tryz.zeroValue21
 t31:=Tryz.underlying27
 a31:=Tryz.isAgg27
 z31:=Tryz.sizeOf27
 v31:=Tryz.zeroValue27
 t46:=Tryz.underlying88
 a46:=Tryz.isAgg88
 z46:=Tryz.sizeOf88
 v46:=Tryz.zeroValue88
 t51:=Tryz.underlying178
 a51:=Tryz.isAgg178
 z51:=Tryz.sizeOf178
 v51:=Tryz.zeroValue178
 t105:=Tryz.underlying149
 a105:=Tryz.isAgg149
 z105:=Tryz.sizeOf149
 v105:=Tryz.zeroValue149
 t119:=Tryz.underlying188
 a119:=Tryz.isAgg188
 z119:=Tryz.sizeOf188
 t138:=Tryz.underlying190
 a138:=Tryz.isAgg190
 z138:=Tryz.sizeOf190
 v138:=Tryz.zeroValue190
 t139:=Tryz.underlying191
 a139:=Tryz.isAgg191
 z139:=Tryz.sizeOf191
 v139:=Tryz.zeroValue191
 t146:=Tryz.underlying179
 a146:=Tryz.isAgg179
 z146:=Tryz.sizeOf179
 v146:=Tryz.zeroValue179
 g1:=by kernel_rfl
 g3:=by kernel_rfl
 g4:=by kernel_rfl }
open Go.RowKit Go.Lib in
theorem Tryz.strings_Split (s sep:ByteArray) (m:Int) (w:World) (hs:s.size<4294967281) (hm:w.cell? ⟨2,0,none⟩=some (.int .i64 m)) (h1:1≤sep.size) :
  Calls Tryz.prog 79 #[.string s,.string sep] w fun e w' =>
   e=.returned (.slice (some ⟨w.heap.size,0,none⟩) (Lib.countB s sep+1) (Lib.countB s sep+1))∧w'=w.alloc (.cells ((Lib.splitB sep 0 (Lib.countB s sep) s).map Value.string).toArray 9):=Any.strings_Split Tryz.lays146 (by kernel_rfl) s sep m w hs hm h1
def Tryz.laysSlgn35_ren:Go.Shelf.Ren:=⟨fun | 35=>159 | n=>n,fun | 22=>157 | 23=>141 | 3=>3 | 4=>4 | 0=>0 | n=>n,fun | n=>n⟩
theorem Tryz.laysSlgn35:Go.Proofs.SlLaysE0.n35 Tryz.prog Tryz.laysSlgn35_ren:={
 mixed:=by kernel_rfl
 f35:=⟨Tryz.f159.name,by decide,Tryz.func159.trans (congrArg some (by kernel_rfl))⟩
 t0:=Tryz.underlying0
 a0:=Tryz.isAgg0
 z0:=Tryz.sizeOf0
 v0:=Tryz.zeroValue0
 t3:=Tryz.underlying3
 a3:=Tryz.isAgg3
 z3:=Tryz.sizeOf3
 v3:=Tryz.zeroValue3
 t4:=Tryz.underlying4
 a4:=Tryz.isAgg4
 z4:=Tryz.sizeOf4
 v4:=Tryz.zeroValue4
 t22:=Tryz.underlying157
 a22:=Tryz.isAgg157
 z22:=Tryz.sizeOf157
 v22:=Tryz.zeroValue157 }
def Tryz.laysSlgn41_ren:Go.Shelf.Ren:=⟨fun | 41=>144 | n=>n,fun | 22=>157 | 23=>141 | 4=>4 | n=>n,fun | n=>n⟩
theorem Tryz.laysSlgn41:Go.Proofs.SlLaysE0.n41 Tryz.prog Tryz.laysSlgn41_ren:={
 mixed:=by kernel_rfl
 f41:=⟨Tryz.f144.name,by decide,Tryz.func144.trans (congrArg some (by kernel_rfl))⟩
 t4:=Tryz.underlying4
 a4:=Tryz.isAgg4
 z4:=Tryz.sizeOf4
 v4:=Tryz.zeroValue4
 t22:=Tryz.underlying157
 a22:=Tryz.isAgg157
 z22:=Tryz.sizeOf157
 v22:=Tryz.zeroValue157 }
end Go.Proofs
namespace Go.Proofs.YtbbjileignefbaaGreatDoor
open Go.Shelf
open Go.RowKit
def Tab (w : World) : Prop := Lib.TabIs Tryz.prog w "internal/strconv.uint64pow10" .u64 Lib.pow10Tab
theorem var_below {P:Program} {w w':World} {name:String} {cs:Array Value} (h:w.var? P name=some cs) (hb:Below w.heap.size w w'):w'.var? P name=some cs:=by
 unfold World.var? at *
 cases hg:P.globalNamed name with
 | none=>simp [hg] at h
 | some g =>
  simp only [hg,Option.bind_some] at h ⊢
  have hlt:g<w.heap.size:=by
   rcases Nat.lt_or_ge g w.heap.size with h' | h'
   ·exact h'
   ·simp [Array.getElem?_eq_none h'] at h
  rw [hb.block g hlt]
  exact h
theorem Tab.below {w w':World} (h:Tab w) (hb:Below w.heap.size w w'):Tab w':=var_below h hb
theorem decPut_any (n:Int) (w:World) (n0:-9223372036854775808≤n) (n1:n≤9223372036854775807) (hg:Tab w) :
  Calls Tryz.prog 113 #[.int .i64 n] w fun e w'=>e=.returned (.string ⟨(Lib.itoa n).toArray⟩)∧Below w.heap.size w w':=by
 go_enter Tryz.func113,Tryz.ntmps113
 go_wp2_with fail
 refine (Tryz.strconv_Itoa n n0 n1 _ hg).mono ?_
 rintro e w' ⟨rfl,k,os,rfl⟩
 go_wp2
 go_ret
 exact ⟨rfl,Lib.below_grow _ _ (Nat.le_refl _) _ _⟩
end Go.Proofs.YtbbjileignefbaaGreatDoor
namespace Go.Proofs.YtbbjileignefbaaGreatDoor.DecMath
open Go.Lib
theorem digit_toNat (d:Nat) (h:d<10):(UInt8.ofNat (48+d)).toNat=48+d:=by
 rw [UInt8.toNat_ofNat'];omega
theorem parse_snoc (c:UInt8):∀ (l:List UInt8) (acc m:Nat),parseUint10 acc l=.ok m→parseUint10 acc (l++[c])=parseUint10 m [c]
 | [],acc,m,h=>by simp only [parseUint10] at h;injection h with h;subst h;rfl
 | x :: r,acc,m,h=>by
  simp only [parseUint10,List.cons_append] at h ⊢
  split at h
  ·rename_i hx
   rw [if_pos hx]
   split at h
   ·cases h
   ·rename_i h2
    rw [if_neg h2]
    split at h
    ·cases h
    ·rename_i h3
     rw [if_neg h3]
     simpa [parseUint10] using parse_snoc c r _ m h
  ·cases h
theorem parse_digits (u:Nat) (h:u<18446744073709551616):parseUint10 0 (decDigits u)=.ok u:=by
 induction u using Nat.strongRecOn with
 | ind u ih =>
  rw [decDigits]
  by_cases hu:u<10
  ·rw [dif_pos hu]
   simp only [parseUint10,digit_toNat u hu]
   rw [if_pos (by omega),if_neg (by omega),if_neg (by omega)]
   congr 1;omega
  ·rw [dif_neg hu,parse_snoc _ _ _ _ (ih (u / 10) (by omega) (by omega))]
   simp only [parseUint10,digit_toNat (u%10) (by omega)]
   rw [if_pos (by omega),if_neg (by omega),if_neg (by omega)]
   congr 1;omega
theorem digits_ne (u:Nat):decDigits u≠[]:=by
 rw [decDigits];split<;>simp
theorem digits_each (u:Nat):∀ c∈decDigits u,48≤c.toNat∧c.toNat≤57:=by
 induction u using Nat.strongRecOn with
 | ind u ih =>
  rw [decDigits]
  by_cases hu:u<10
  ·rw [dif_pos hu]
   intro c hc
   simp only [List.mem_singleton] at hc
   subst hc
   rw [digit_toNat u hu];omega
  ·rw [dif_neg hu]
   intro c hc
   simp only [List.mem_append,List.mem_singleton] at hc
   rcases hc with hc | rfl
   ·exact ih (u / 10) (by omega) c hc
   ·rw [digit_toNat (u%10) (by omega)];omega
theorem mag_digits (u:Nat) (h:u<18446744073709551616):parseMag (decDigits u)=.ok u:=by
 rw [parseMag,if_neg (digits_ne u),parse_digits u h]
theorem atoi_itoa (n:Int) (n0:-9223372036854775808≤n) (n1:n≤9223372036854775807):atoiAll (itoa n)=.ok n:=by
 unfold itoa
 split
 ·rw [atoiAll_minus,mag_digits _ (by omega)]
  simp only [signed]
  rw [if_neg (by omega)]
  congr 1;omega
 ·obtain ⟨c,r,e⟩:=List.exists_cons_of_ne_nil (digits_ne n.toNat)
  have hc:=digits_each n.toNat c (by rw [e];simp)
  have hm:=mag_digits n.toNat (by omega)
  rw [e] at hm ⊢
  rw [atoiAll_plain c r (by omega) (by omega),hm]
  simp only [signless]
  rw [if_neg (by omega)]
  congr 1;omega
def numOf (l:List UInt8):Int×Bool :=
 match atoiAll l with
 | .ok v=>if itoa v=l then (v,true) else (0,false)
 | _=>(0,false)
theorem numOf_itoa (n:Int) (n0:-9223372036854775808≤n) (n1:n≤9223372036854775807):numOf (itoa n)=(n,true):=by
 simp [numOf,atoi_itoa n n0 n1]
theorem numOf_none (l:List UInt8) (h:∀ n:Int,-9223372036854775808≤n→n≤9223372036854775807→itoa n≠l):numOf l=(0,false):=by
 unfold numOf
 split
 ·rename_i v hv
  have:=atoiAll_bounds hv
  rw [if_neg (h v this.1 this.2)]
 ·rfl
theorem numOf_cases (l:List UInt8):(∃ n:Int,(-9223372036854775808≤n∧n≤9223372036854775807)∧itoa n=l∧numOf l=(n,true)) ∨
  ((∀ n:Int,-9223372036854775808≤n→n≤9223372036854775807→itoa n≠l)∧numOf l=(0,false)):=by
 by_cases h:∃ n:Int,(-9223372036854775808≤n∧n≤9223372036854775807)∧itoa n=l
 ·obtain ⟨n,hn,rfl⟩:=h
  exact .inl ⟨n,hn,rfl,numOf_itoa n hn.1 hn.2⟩
 ·have h':∀ n:Int,-9223372036854775808≤n→n≤9223372036854775807→itoa n≠l:=fun n a b e=>h ⟨n,⟨a,b⟩,e⟩
  exact .inr ⟨h',numOf_none l h'⟩
theorem nDigits_le:∀ (k u:Nat),u<10 ^ (k+1)→nDigits u≤k+1
 | 0,u,h=>by rw [nDigits_small (by omega)];omega
 | k+1,u,h=>by
  by_cases hu:u<10
  ·rw [nDigits_small hu];omega
  ·rw [nDigits_big hu]
   have:=nDigits_le k (u / 10) (by have:10 ^ (k+1+1)=10 ^ (k+1)*10:=Nat.pow_succ ..;omega)
   omega
theorem itoa_len (n:Int) (n0:-9223372036854775808≤n) (n1:n≤9223372036854775807):1≤(itoa n).length∧(itoa n).length≤20:=by
 unfold itoa
 split
 ·have:=nDigits_le 18 n.natAbs (by omega)
  simp only [List.length_cons,decDigits_length];omega
 ·have:=nDigits_le 18 n.toNat (by omega)
  have:=nDigits_pos n.toNat
  simp only [decDigits_length];omega
def rd (neg:Bool) (n:Int) (c:UInt8):Int:=if neg then n*10-(c.toNat-48) else n*10+(c.toNat-48)
def w64 (n:Int):Int:=(n+9223372036854775808)%18446744073709551616-9223372036854775808
def rg (neg:Bool) (n:Int):List UInt8→Option Int
 | []=>some n
 | c :: r=>if c.toNat<48∨57<c.toNat then none else rg neg (w64 (rd neg n c)) r
theorem rg_snoc (neg:Bool) (c:UInt8):∀ (l:List UInt8) (n m:Int),rg neg n l=some m→rg neg n (l++[c])=rg neg m [c]
 | [],n,m,h=>by simp only [rg] at h;injection h with h;subst h;rfl
 | x :: r,n,m,h=>by
  simp only [rg,List.cons_append] at h ⊢
  split at h
  ·cases h
  ·rename_i hx
   rw [if_neg hx]
   simpa [rg] using rg_snoc neg c r _ m h
theorem rg_digits (neg:Bool) (u:Nat) (h:u≤9223372036854775807∨(neg=true∧u≤9223372036854775808)) :
  rg neg 0 (decDigits u)=some (if neg then -(u:Int) else u):=by
 induction u using Nat.strongRecOn with
 | ind u ih =>
  rw [decDigits]
  by_cases hu:u<10
  ·rw [dif_pos hu]
   simp only [rg,digit_toNat u hu]
   rw [if_neg (by omega)]
   have e:=digit_toNat u hu
   cases neg
   ·simp only [rd,w64,e,Bool.false_eq_true,if_false,Option.some.injEq];omega
   ·simp only [rd,w64,e,if_true,Option.some.injEq];omega
  ·rw [dif_neg hu,rg_snoc _ _ _ _ _ (ih (u / 10) (by omega) (by omega))]
   simp only [rg,digit_toNat (u%10) (by omega)]
   rw [if_neg (by omega)]
   have e:=digit_toNat (u%10) (by omega)
   cases neg
   ·have h':u≤9223372036854775807:=by simpa using h
    simp only [rd,w64,e,Bool.false_eq_true,if_false,Option.some.injEq];omega
   ·simp only [rd,w64,e,if_true,Option.some.injEq];omega
def td (u:Nat):List UInt8:=if u=0 then [] else decDigits u
theorem td_step (u:Nat) (h:u≠0):td u=td (u / 10)++[UInt8.ofNat (48+u%10)]:=by
 unfold td
 rw [if_neg h]
 by_cases hu:u<10
 ·rw [if_pos (by omega),decDigits,dif_pos hu,show u%10=u from by omega];rfl
 ·rw [if_neg (by omega),decDigits,dif_neg hu]
end Go.Proofs.YtbbjileignefbaaGreatDoor.DecMath
