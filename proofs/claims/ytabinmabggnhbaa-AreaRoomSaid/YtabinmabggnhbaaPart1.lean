/- Part 1 of the texts that the proofs of this seat share: Later, TurnCode, TurnDo, Boxes, RefLow, QuietTail, PlaceCode, TurnRef, TurnMat, TurnMath, PlaceMath, Job, NumIn, RefIn, StepSp, SchemeSc, StepAll, SchemeCode, PanelMath, DecPut, DecCode, WordsCode, Texts. -/
import Derived.WalkKit
import Derived.Below
import Derived.Deep.QuietTactic
import Derived.BigQuiet
import Derived.Test.YtabinmabggnhbaaProg
import Derived.WalkSpells
import Derived.WalkLawsBesides
import Derived.Lib.Hide
import Derived.Outline
import Derived.IntWalk
import Derived.Deep.Light
import Derived.Deep.RegionHeld
import Derived.StillTail
import Derived.RowKit3
import Derived.OpenShut
import GoSem.Core.Value
import Derived.OwnWalk
import Derived.Shelf.Strconv.Itoa3
import Derived.Shelf.Strconv.ErrVarAll
import Derived.Shelf.Small.Wraps
import Derived.Shelf.Strings.Split
import Derived.Shelf.Strings.Cut
import Derived.Lib.AppendIntMem
import Derived.Lib.ItoaNum
import Derived.Lib.AtoiAllCases
import Derived.BigCall
import Derived.BigGuard
import Derived.Lib.Walk
import Derived.Laws.DeepStrings4
import Derived.Laws.Concat
import Derived.Lib.AtoiErrMem
import Derived.Deep.AppendLies
import Derived.Laws.OwnMore
import Derived.Laws.IdiomStrings
import Derived.Laws.BytesArg
set_option linter.unusedVariables false
namespace Go.Proofs.Ytabinmabggnhbaa
open Go.RowKit
theorem bl_cell {w w':World} {p:Addr} {v:Value} (h:Below w.heap.size w w') (hc:w.cell? p=some v):w'.cell? p=some v:=(h.cell (World.block_lt_of_cell? w p hc)).trans hc
theorem up_alloc {a w:World} (h:Below a.heap.size a w) (o:Obj):Below a.heap.size a (w.alloc o):=h.alloc h.size o
theorem up_drew {a w:World} (h:Below a.heap.size a w):Below a.heap.size a w.drew:=h.drew
theorem up_trans {a b c:World} (h:Below a.heap.size a b) (k:Below b.heap.size b c):Below a.heap.size a c:=h.trans (k.mono h.size)
theorem up_set {a w:World} (h:Below a.heap.size a w) {p:Addr} (hp:a.heap.size≤p.block) (u:Value):Below a.heap.size a (w.setCell p u):=h.setCell hp u
theorem kept_marks {W w1:World} (hb:Below W.heap.size W w1) (b o:Nat) (h:b<W.heap.size):w1.frozen? ⟨b,o,none⟩=W.frozen? ⟨b,o,none⟩:=hb.frozen (p:=⟨b,o,none⟩) h
structure Later (w:World) where
 now:World
 up:Below w.heap.size w now
instance (w:World):Nonempty (Later w):=⟨⟨w,Below.refl _ _⟩⟩
theorem Later.cell {w:World} (u:Later w) {p:Addr} {v:Value} (h:w.cell? p=some v):u.now.cell? p=some v:=bl_cell u.up h
theorem Later.call {P:Program} {f:FuncId} {args:Array Value} {w:World} {u:Later w} {v:Value} (h:Calls P f args u.now fun e w'=>e=.returned v∧Below u.now.heap.size u.now w') :
  Calls P f args u.now fun e w''=>e=.returned v∧∃ u':Later w,w''=u'.now:=h.mono fun _ _ ⟨he,hb⟩=>⟨he,⟨_,up_trans u.up hb⟩,rfl⟩
theorem Later.next {w:World} {u:Later w} {w':World} (h:Below u.now.heap.size u.now w'):∃ u':Later w,w'=u'.now:=⟨⟨_,up_trans u.up h⟩,rfl⟩
theorem later_start {w:World} {G:World→Prop} (h:∀ u:Later w,G u.now):G w:=h ⟨w,Below.refl _ _⟩
theorem wp_region_later {P:Program} {id:Nat} {Q:Exit→Act→World→Prop} {a:Act} {w:World} {u:Later w} {l:List Oper} (hm:P.follows .mixedOrders=true) (hB:Region.lexB .any l.toArray=true)
  (h:wpQuiet P l.toArray (fun w'=>∃ u:Later w,w'=u.now) (fun a'=>∀ w',(∃ u:Later w,w'=u.now)→Q .normal a' w') l a):(Code.region id l.toArray true).wp P Q a u.now :=
 wp_region_quiet (C:=fun w'=>∃ u:Later w,w'=u.now) hm hB ⟨⟨_,up_drew u.up⟩,rfl⟩ (by simpa using h)
theorem and7 (x:Int):bits .and .i64 x 7=x%8:=by
 have h:(BitVec.ofInt 64 x &&& BitVec.ofInt 64 7).toNat=(x%8).toNat:=by
  rw [BitVec.toNat_and,BitVec.toNat_ofInt,BitVec.toNat_ofInt]
  rw [show ((7:Int)%((2 ^ 64:Nat):Int)).toNat=2 ^ 3-1 by decide,Nat.and_two_pow_sub_one_eq_mod]
  omega
 show IntKind.i64.wrap (((BitVec.ofInt 64 x &&& BitVec.ofInt 64 7).toNat:Nat):Int)=_
 rw [h,IntWalk.i64_in _ (by omega)]
 omega
theorem among_any (t:Int) (w:World):Calls Try.prog 81 #[.int .i64 t] w fun e w'=>e=.returned (.int .i64 (t%8))∧w'=w:=by
 have h:=and7 t
 obtain ⟨q,hq⟩:∃ q,t%8=q:=⟨_,rfl⟩
 rw [hq] at h ⊢
 clear hq
 go_enter Try.func81,Try.ntmps81
 go_wp2
 go_ret
 exact ⟨rfl,rfl⟩
theorem rem4 (t:Int):t%8%4=t%4:=by omega
theorem quarters_any (t:Int) (w:World):Calls Try.prog 78 #[.int .i64 t] w fun e w'=>e=.returned (.int .i64 (t%4))∧w'=w:=by
 have K:=fun w=>among_any t w
 rw [←rem4]
 have h0:0≤t%8:=by omega
 have h1:t%8<8:=by omega
 generalize t%8=q at *
 have HK:=Lib.hid K
 clear K
 go_enter Try.func78,Try.ntmps78
 go_wp2_with (go_at_call 81;refine (HK.out _).mono ?_;rintro e w' ⟨rfl,rfl⟩)
 go_ret
 exact ⟨rfl,rfl⟩
def mir (t:Int):Bool:=decide (4≤t%8)
theorem mirrors_any (t:Int) (w:World):Calls Try.prog 79 #[.int .i64 t] w fun e w'=>e=.returned (.bool (mir t))∧w'=w:=by
 have K:=fun w=>among_any t w
 unfold mir
 generalize t%8=q at *
 have HK:=Lib.hid K
 clear K
 go_enter Try.func79,Try.ntmps79
 go_wp2_with (go_at_call 81;refine (HK.out _).mono ?_;rintro e w' ⟨rfl,rfl⟩)
 go_ret
 exact ⟨rfl,rfl⟩
def ofT (m:Bool) (n:Int):Int:=if m=true then 4+n%4 else n%4
theorem turnOf_any (m:Bool) (n:Int) (w:World):Calls Try.prog 80 #[.bool m,.int .i64 n] w fun e w'=>e=.returned (.int .i64 (ofT m n))∧w'=w:=by
 have K:=fun w=>quarters_any n w
 unfold ofT
 have h0:0≤n%4:=by omega
 have h1:n%4<4:=by omega
 generalize n%4=q at *
 have HK:=Lib.hid K
 clear K
 cases m
 all_goals
  go_enter Try.func80,Try.ntmps80
  go_wp2_with (go_at_call 78;refine (HK.out _).mono ?_;rintro e w' ⟨rfl,rfl⟩)
  go_ret
  exact ⟨rfl,rfl⟩
def thenT (a b:Int):Int:=ofT (mir a != mir b) ((if mir b=true then -(a%4) else a%4)+b%4)
theorem turnThen_any (a b:Int) (w:World):Calls Try.prog 64 #[.int .i64 a,.int .i64 b] w fun e w'=>e=.returned (.int .i64 (thenT a b))∧w'=w:=by
 have KA:=fun w=>quarters_any a w
 have KB:=fun w=>quarters_any b w
 have MA:=fun w=>mirrors_any a w
 have MB:=fun w=>mirrors_any b w
 unfold thenT
 have a0:0≤a%4:=by omega
 have a1:a%4<4:=by omega
 have b0:0≤b%4:=by omega
 have b1:b%4<4:=by omega
 generalize a%4=p at *
 generalize b%4=q at *
 generalize mir a=m at *
 generalize mir b=n at *
 have HA:=Lib.hid KA;have HB:=Lib.hid KB;have LA:=Lib.hid MA;have LB:=Lib.hid MB
 clear KA KB MA MB
 cases n
 all_goals
  go_enter Try.func64,Try.ntmps64
  go_wp2_with (first
   | (go_at_call 78;first | ((with_reducible refine (HA.out _).mono ?_);rintro e w' ⟨rfl,rfl⟩) | ((with_reducible refine (HB.out _).mono ?_);rintro e w' ⟨rfl,rfl⟩))
   | (go_at_call 79;first | ((with_reducible refine (LA.out _).mono ?_);rintro e w' ⟨rfl,rfl⟩) | ((with_reducible refine (LB.out _).mono ?_);rintro e w' ⟨rfl,rfl⟩))
   | (go_at_call 80;refine (turnOf_any _ _ _).mono ?_;rintro e w' ⟨rfl,rfl⟩))
  go_ret
  exact ⟨rfl,rfl⟩
def neg64 (x:Int):Int:=IntKind.i64.wrap (-x)
theorem neg_neg64 (x:Int) (h0:-9223372036854775808≤x) (h1:x≤9223372036854775807):neg64 (neg64 x)=x:=by
 unfold neg64
 rw [IntKind.wrap_i64,IntKind.wrap_i64]
 omega
def doT (r x y:Int):Int×Int :=
 if r=0 then (x,y) else if r=1 then (neg64 y,x) else if r=2 then (neg64 x,neg64 y) else if r=3 then (y,neg64 x)
 else if r=4 then (neg64 x,y) else if r=5 then (neg64 y,neg64 x) else if r=6 then (x,neg64 y) else (y,x)
set_option maxRecDepth 100000 in
set_option maxHeartbeats 1000000 in
theorem do_way (t x y nx ny:Int) (m:Bool) (q:Nat) (hq:q<4) (w:World) (hx:IntKind.i64.wrap (-x)=nx) (hy:IntKind.i64.wrap (-y)=ny) (hnx:IntKind.i64.wrap (-nx)=x) (hny:IntKind.i64.wrap (-ny)=y)
  (KM:∀ w,Calls Try.prog 79 #[.int .i64 t] w fun e w'=>e=.returned (.bool m)∧w'=w)
  (KQ:∀ w,Calls Try.prog 78 #[.int .i64 t] w fun e w'=>e=.returned (.int .i64 (q:Int))∧w'=w) :
  Calls Try.prog 76 #[.int .i64 t,.agg #[.int .i64 x,.int .i64 y]] w fun e w'=>e=.returned (.agg #[.int .i64 (doT (if m=true then 4+q else q) x y).1,.int .i64 (doT (if m=true then 4+q else q) x y).2])∧Below w.heap.size w w':=by
 have HM:=Lib.hid KM;have HQ:=Lib.hid KQ
 clear KM KQ
 obtain rfl | rfl | rfl | rfl:q=0∨q=1∨q=2∨q=3:=by omega
 ·cases m
  ·have E:Hid (doT 0 x y=(x,y)):=Lib.hid (by subst hx;subst hy;rfl)
   go_enter Try.func76,Try.ntmps76
   go_wp2_with (first
    | (go_at_call 78;refine (HQ.out _).mono ?_;rintro e w' ⟨rfl,rfl⟩)
    | (go_at_call 79;refine (HM.out _).mono ?_;rintro e w' ⟨rfl,rfl⟩))
   refine wp_loop_rounds 1 ?_
   rw [rounds_succ]
   go_wp2
   refine bodyPost_ret (v:=.agg #[.int .i64 x,.int .i64 y]) (by simp [results,Try.results76,go_sem]) rfl ⟨?_,?_⟩
   ·show Ending.returned _=Ending.returned (.agg #[.int .i64 (doT 0 x y).1,.int .i64 (doT 0 x y).2])
    rw [E.out]
   ·repeat (first | exact Below.refl _ _ | apply up_alloc | (refine up_set ?_ (by simp) _))
  ·have E:Hid (doT 4 x y=(nx,y)):=Lib.hid (by subst hx;subst hy;rfl)
   go_enter Try.func76,Try.ntmps76
   go_wp2_with (first
    | (go_at_call 78;refine (HQ.out _).mono ?_;rintro e w' ⟨rfl,rfl⟩)
    | (go_at_call 79;refine (HM.out _).mono ?_;rintro e w' ⟨rfl,rfl⟩))
   refine wp_loop_rounds 1 ?_
   rw [rounds_succ]
   go_wp2
   refine bodyPost_ret (v:=.agg #[.int .i64 nx,.int .i64 y]) (by simp [results,Try.results76,go_sem]) rfl ⟨?_,?_⟩
   ·show Ending.returned _=Ending.returned (.agg #[.int .i64 (doT 4 x y).1,.int .i64 (doT 4 x y).2])
    rw [E.out]
   ·repeat (first | exact Below.refl _ _ | apply up_alloc | (refine up_set ?_ (by simp) _))
 ·cases m
  ·have E:Hid (doT 1 x y=(ny,x)):=Lib.hid (by subst hx;subst hy;rfl)
   go_enter Try.func76,Try.ntmps76
   go_wp2_with (first
    | (go_at_call 78;refine (HQ.out _).mono ?_;rintro e w' ⟨rfl,rfl⟩)
    | (go_at_call 79;refine (HM.out _).mono ?_;rintro e w' ⟨rfl,rfl⟩))
   refine wp_loop_rounds 2 ?_
   rw [rounds_succ]
   go_wp2
   rw [rounds_succ]
   go_wp2
   refine bodyPost_ret (v:=.agg #[.int .i64 ny,.int .i64 x]) (by simp [results,Try.results76,go_sem]) rfl ⟨?_,?_⟩
   ·show Ending.returned _=Ending.returned (.agg #[.int .i64 (doT 1 x y).1,.int .i64 (doT 1 x y).2])
    rw [E.out]
   ·repeat (first | exact Below.refl _ _ | apply up_alloc | (refine up_set ?_ (by simp) _))
  ·have E:Hid (doT 5 x y=(ny,nx)):=Lib.hid (by subst hx;subst hy;rfl)
   go_enter Try.func76,Try.ntmps76
   go_wp2_with (first
    | (go_at_call 78;refine (HQ.out _).mono ?_;rintro e w' ⟨rfl,rfl⟩)
    | (go_at_call 79;refine (HM.out _).mono ?_;rintro e w' ⟨rfl,rfl⟩))
   refine wp_loop_rounds 2 ?_
   rw [rounds_succ]
   go_wp2
   rw [rounds_succ]
   go_wp2
   refine bodyPost_ret (v:=.agg #[.int .i64 ny,.int .i64 nx]) (by simp [results,Try.results76,go_sem]) rfl ⟨?_,?_⟩
   ·show Ending.returned _=Ending.returned (.agg #[.int .i64 (doT 5 x y).1,.int .i64 (doT 5 x y).2])
    rw [E.out]
   ·repeat (first | exact Below.refl _ _ | apply up_alloc | (refine up_set ?_ (by simp) _))
 ·cases m
  ·have E:Hid (doT 2 x y=(nx,ny)):=Lib.hid (by subst hx;subst hy;rfl)
   go_enter Try.func76,Try.ntmps76
   go_wp2_with (first
    | (go_at_call 78;refine (HQ.out _).mono ?_;rintro e w' ⟨rfl,rfl⟩)
    | (go_at_call 79;refine (HM.out _).mono ?_;rintro e w' ⟨rfl,rfl⟩))
   refine wp_loop_rounds 3 ?_
   rw [rounds_succ]
   go_wp2
   rw [rounds_succ]
   go_wp2
   rw [rounds_succ]
   go_wp2
   refine bodyPost_ret (v:=.agg #[.int .i64 nx,.int .i64 ny]) (by simp [results,Try.results76,go_sem]) rfl ⟨?_,?_⟩
   ·show Ending.returned _=Ending.returned (.agg #[.int .i64 (doT 2 x y).1,.int .i64 (doT 2 x y).2])
    rw [E.out]
   ·repeat (first | exact Below.refl _ _ | apply up_alloc | (refine up_set ?_ (by simp) _))
  ·have E:Hid (doT 6 x y=(x,ny)):=Lib.hid (by subst hx;subst hy;rfl)
   go_enter Try.func76,Try.ntmps76
   go_wp2_with (first
    | (go_at_call 78;refine (HQ.out _).mono ?_;rintro e w' ⟨rfl,rfl⟩)
    | (go_at_call 79;refine (HM.out _).mono ?_;rintro e w' ⟨rfl,rfl⟩))
   refine wp_loop_rounds 3 ?_
   rw [rounds_succ]
   go_wp2
   rw [rounds_succ]
   go_wp2
   rw [rounds_succ]
   go_wp2
   refine bodyPost_ret (v:=.agg #[.int .i64 x,.int .i64 ny]) (by simp [results,Try.results76,go_sem]) rfl ⟨?_,?_⟩
   ·show Ending.returned _=Ending.returned (.agg #[.int .i64 (doT 6 x y).1,.int .i64 (doT 6 x y).2])
    rw [E.out]
   ·repeat (first | exact Below.refl _ _ | apply up_alloc | (refine up_set ?_ (by simp) _))
 ·cases m
  ·have E:Hid (doT 3 x y=(y,nx)):=Lib.hid (by subst hx;subst hy;rfl)
   go_enter Try.func76,Try.ntmps76
   go_wp2_with (first
    | (go_at_call 78;refine (HQ.out _).mono ?_;rintro e w' ⟨rfl,rfl⟩)
    | (go_at_call 79;refine (HM.out _).mono ?_;rintro e w' ⟨rfl,rfl⟩))
   refine wp_loop_rounds 4 ?_
   rw [rounds_succ]
   go_wp2
   rw [rounds_succ]
   go_wp2
   rw [rounds_succ]
   go_wp2
   rw [rounds_succ]
   go_wp2
   refine bodyPost_ret (v:=.agg #[.int .i64 y,.int .i64 nx]) (by simp [results,Try.results76,go_sem]) rfl ⟨?_,?_⟩
   ·show Ending.returned _=Ending.returned (.agg #[.int .i64 (doT 3 x y).1,.int .i64 (doT 3 x y).2])
    rw [E.out]
   ·repeat (first | exact Below.refl _ _ | apply up_alloc | (refine up_set ?_ (by simp) _))
  ·have E:Hid (doT 7 x y=(y,x)):=Lib.hid (by subst hx;subst hy;rfl)
   go_enter Try.func76,Try.ntmps76
   go_wp2_with (first
    | (go_at_call 78;refine (HQ.out _).mono ?_;rintro e w' ⟨rfl,rfl⟩)
    | (go_at_call 79;refine (HM.out _).mono ?_;rintro e w' ⟨rfl,rfl⟩))
   refine wp_loop_rounds 4 ?_
   rw [rounds_succ]
   go_wp2
   rw [rounds_succ]
   go_wp2
   rw [rounds_succ]
   go_wp2
   rw [rounds_succ]
   go_wp2
   refine bodyPost_ret (v:=.agg #[.int .i64 y,.int .i64 x]) (by simp [results,Try.results76,go_sem]) rfl ⟨?_,?_⟩
   ·show Ending.returned _=Ending.returned (.agg #[.int .i64 (doT 7 x y).1,.int .i64 (doT 7 x y).2])
    rw [E.out]
   ·repeat (first | exact Below.refl _ _ | apply up_alloc | (refine up_set ?_ (by simp) _))
theorem mir_eq (t:Int):t%8=if mir t=true then 4+t%4 else t%4:=by
 unfold mir
 split
 ·rename_i h
  have:=of_decide_eq_true h
  omega
 ·rename_i h
  have:¬ 4≤t%8:=fun k=>h (decide_eq_true k)
  omega
theorem turnDo_any (t x y:Int) (w:World) (h0:-9223372036854775808≤x) (h1:x≤9223372036854775807) (k0:-9223372036854775808≤y) (k1:y≤9223372036854775807) :
  Calls Try.prog 76 #[.int .i64 t,.agg #[.int .i64 x,.int .i64 y]] w fun e w'=>e=.returned (.agg #[.int .i64 (doT (t%8) x y).1,.int .i64 (doT (t%8) x y).2])∧Below w.heap.size w w':=by
 have hq:((t%4).toNat:Int)=t%4:=by omega
 have:=do_way t x y _ _ (mir t) (t%4).toNat (by omega) w rfl rfl (neg_neg64 x h0 h1) (neg_neg64 y k0 k1) (fun w=>mirrors_any t w) (fun w=>by rw [hq];exact quarters_any t w)
 rw [mir_eq]
 rw [hq] at this
 exact this
def Bx (w:World) (B:Nat) (vs:List Value):Prop:=(∀ j v,vs[j]?=some v→w.cell? ⟨B,j,none⟩=some v)∧∀ j,w.frozen? ⟨B,j,none⟩=false
theorem Bx.cell {w:World} {B:Nat} {vs:List Value} (h:Bx w B vs) (j:Nat) {v:Value} (hj:vs[j]?=some v):w.cell? ⟨B,j,none⟩=some v:=h.1 j v hj
theorem Bx.free {w:World} {B:Nat} {vs:List Value} (h:Bx w B vs) (j:Nat):w.frozen? ⟨B,j,none⟩=false:=h.2 j
theorem Bx.up {w w':World} {B:Nat} {v0:Value} {vs:List Value} (h:Bx w B (v0 :: vs)) (hb:Below w.heap.size w w'):Bx w' B (v0 :: vs) :=
 ⟨fun j v hj=>bl_cell hb (h.1 j v hj),fun j=>(kept_marks hb B j (World.block_lt_of_cell? w _ (h.1 0 v0 rfl))).trans (h.2 j)⟩
theorem Bx.alloc {w:World} {B:Nat} {v0:Value} {vs:List Value} (h:Bx w B (v0 :: vs)) (o:Obj):Bx (w.alloc o) B (v0 :: vs):=h.up (up_alloc (Below.refl _ _) o)
theorem Bx.new (w:World) (t:TypeId) (vs:List Value):Bx (w.alloc (.cells vs.toArray t)) w.heap.size vs:=by
 refine ⟨fun j v hj=>?_,fun j=>?_⟩
 ·have hj':=hj
  obtain ⟨hlt,rfl⟩:=List.getElem?_eq_some_iff.1 hj'
  simp [go_sem,hlt]
 ·simp [go_sem]
theorem Bx.far {w:World} {B:Nat} {vs:List Value} (h:Bx w B vs) {p:Addr} (hp:p.block≠B) (x:Value):Bx (w.setCell p x) B vs :=
 ⟨fun j v hj=>(World.cell?_setCell_far _ _ _ _ hp).trans (h.1 j v hj),fun j=>by simp only [World.frozen?_setCell];exact h.2 j⟩
theorem Bx.set {w:World} {B:Nat} {vs:List Value} (h:Bx w B vs) (i:Nat) (x:Value):Bx (w.setCell ⟨B,i,none⟩ x) B (vs.set i x):=by
 refine ⟨fun j v hj=>?_,fun j=>by simp only [World.frozen?_setCell];exact h.2 j⟩
 rw [List.getElem?_set] at hj
 by_cases e:i=j
 ·subst e
  simp only [if_true] at hj
  split at hj
  ·rename_i hlt
   obtain rfl:=Option.some.inj hj
   exact World.cell?_setCell_same w _ _ (h.1 i _ (List.getElem?_eq_getElem hlt))
  ·cases hj
 ·rw [if_neg e] at hj
  rw [World.cell?_setCell_other _ _ _ _ (by intro k;exact e (by injection k))]
  exact h.1 j v hj
theorem Bx.set3 {w:World} {B:Nat} {a0 a1 a2:Value} (h:Bx w B [a0,a1,a2]) (v0 v1 v2:Value):Bx (((w.setCell ⟨B,0,none⟩ v0).setCell ⟨B,1,none⟩ v1).setCell ⟨B,2,none⟩ v2) B [v0,v1,v2]:=((h.set 0 v0).set 1 v1).set 2 v2
theorem Bx.drew {w:World} {B:Nat} {v0:Value} {vs:List Value} (h:Bx w B (v0 :: vs)):Bx w.drew B (v0 :: vs):=h.up (up_drew (Below.refl _ _))
theorem Bx.lt {w:World} {B:Nat} {v0:Value} {vs:List Value} (h:Bx w B (v0 :: vs)):B<w.heap.size:=World.block_lt_of_cell? w _ (h.1 0 v0 rfl)
theorem max_if (a b:Int):(if a<b then b else a)=max a b:=by split<;>omega
theorem min_if (a b:Int):(if b<a then b else a)=min a b:=by split<;>omega
theorem high_any (a b:Int) (w:World):Calls Try.prog 46 #[.int .i64 a,.int .i64 b] w fun e w'=>e=.returned (.int .i64 (max a b))∧w'=w:=by
 by_cases h:b<a
 ·have E:=Lib.hid (show max a b=a by omega)
  go_enter Try.func46,Try.ntmps46
  go_wp2
  go_ret
  exact ⟨by rw [E.out];rfl,rfl⟩
 ·have E:=Lib.hid (show max a b=b by omega)
  go_enter Try.func46,Try.ntmps46
  go_wp2
  go_ret
  exact ⟨by rw [E.out];rfl,rfl⟩
theorem low_any (a b:Int) (w:World):Calls Try.prog 47 #[.int .i64 a,.int .i64 b] w fun e w'=>e=.returned (.int .i64 (min a b))∧w'=w:=by
 by_cases h:a<b
 ·have E:=Lib.hid (show min a b=a by omega)
  go_enter Try.func47,Try.ntmps47
  go_wp2
  go_ret
  exact ⟨by rw [E.out];rfl,rfl⟩
 ·have E:=Lib.hid (show min a b=b by omega)
  go_enter Try.func47,Try.ntmps47
  go_wp2
  go_ret
  exact ⟨by rw [E.out];rfl,rfl⟩
theorem high_b (a b:Int) (w:World):Calls Try.prog 46 #[.int .i64 a,.int .i64 b] w fun e w'=>e=.returned (.int .i64 (max a b))∧Below w.heap.size w w' :=
 (high_any a b w).mono fun _ _ ⟨he,hw⟩=>⟨he,by rw [hw];exact Below.refl _ _⟩
theorem low_b (a b:Int) (w:World):Calls Try.prog 47 #[.int .i64 a,.int .i64 b] w fun e w'=>e=.returned (.int .i64 (min a b))∧Below w.heap.size w w' :=
 (low_any a b w).mono fun _ _ ⟨he,hw⟩=>⟨he,by rw [hw];exact Below.refl _ _⟩
end Go.Proofs.Ytabinmabggnhbaa
namespace Go.Proofs.Ytabinmabggnhbaa
open Go.RowKit
section
variable {P:Program} {ops:Array Oper} {C:World→Prop}
def headAny (P:Program) (ops:Array Oper) (C:World→Prop) (n:Nat) (L:Array Bool→Act→Prop):Nat→Array Bool→Act→Prop
 | 0,s,a=>L s a
 | f+1,s,a=>Region.ready .any ops s≠[]∧∀ i∈Region.ready .any ops s,i<n∧qOp P ops C i (headAny P ops C n L f (s.setIfInBounds i true)) a
theorem headAny_wp {n g:Nat} {L:Array Bool→Act→Prop} {Q:Exit→Act→World→Prop} (hL:∀ s a w,C w→L s a→wpAny P .any ops Q g s a w) :
  ∀ (f:Nat) (s:Array Bool) (a:Act) (w:World),C w→headAny P ops C n L f s a→wpAny P .any ops Q (f+g) s a w:=by
 intro f
 induction f with
 | zero=>intro s a w hw h;rw [Nat.zero_add];exact hL _ _ _ hw h
 | succ f ih =>
  intro s a w hw h
  rw [show f+1+g=f+g+1 by omega]
  exact ⟨fun h0=>absurd h0 h.1,fun i hi=>wpOp_of_qOp hw (fun a' w' hw' h'=>ih _ a' w' hw' h') (h.2 i hi).2⟩
theorem headAny_swap {n i:Nat} {oi:Oper} {v:Value} {L:Array Bool→Act→Prop} (hi:ops[i]?=some oi) (hsel:∀ (j:Nat) (o:Oper) cs b,ops[j]?=some o→o.op≠.select cs b)
  (hs:Region.sinkB .any ops n=true) (hc:Region.chainB .any ops n=true) (hn:n<ops.size) (hin:i<n) (hdone:∀ s a,L s a→∀ j∈Region.ready .any ops s,n≤j) :
  ∀ (f:Nat) (s:Array Bool) (a:Act),HeadInv .any ops n s →
   (∀ j oj,ops[j]?=some oj→j≠i→s.getD j true=false→(∀ e∈oj.after,Region.binds .any e=true→e.on≠i)→oi.apart ops oj=true) →
   i∈Region.ready .any ops s→YieldsIn P ops C oi v a→headAny P ops C n L f (s.setIfInBounds i true) (a.put oi.dst v)→headAny P ops C n L (f+1) s a:=by
 intro f
 induction f with
 | zero =>
  intro s a inv _ hr hy H
  have inHead:∀ j∈Region.ready .any ops s,j<n:=fun j hj=>Nat.lt_of_not_le fun h=>tail_waits hs hc hn inv _ i rfl hin (mem_ready.1 hr).1 j h hj
  refine ⟨fun h=>(by rw [h] at hr;cases hr),fun j hj=>⟨inHead j hj,?_⟩⟩
  by_cases e:j=i
  ·subst e;exact hy.qOp hi H
  ·exact absurd (hdone _ _ H j (ready_mono hj e)) (by have:=inHead j hj;omega)
 | succ f ih =>
  intro s a inv free hr hy H
  have hun:=(mem_ready.1 hr).1
  have inHead:∀ j∈Region.ready .any ops s,j<n:=fun j hj=>Nat.lt_of_not_le fun h=>tail_waits hs hc hn inv _ i rfl hin hun j h hj
  refine ⟨fun h=>(by rw [h] at hr;cases hr),fun j hj=>⟨inHead j hj,?_⟩⟩
  by_cases e:j=i
  ·subst e;exact hy.qOp hi H
  ·obtain ⟨ju,oj,ho,before⟩:=mem_ready.1 hj
   have waits:∀ x∈oj.after,Region.binds .any x=true→x.on≠i:=fun x hx hb he=>by
    have:=before x hx hb
    rw [he,getD_both hun] at this
    cases this
   refine qOp_mono (fun a' h'=>ih (s.setIfInBounds j true) a' (inv.set hj (inHead j hj)) (fun k ok hk ki hu no=>free k ok hk ki ?_ no) (ready_mono hr (Ne.symm e)) h'.1 ?_)
    (qOp_put ho (free j oj ho e ju waits) (fun cs b=>hsel i oi cs b hi) (fun cs b=>hsel j oj cs b ho) hy (H.2 j (ready_mono hj e)).2)
   ·by_cases jk:j=k
    ·subst jk;exact ju
    ·rwa [getD_set_ne true jk] at hu
   ·rw [Array.setIfInBounds_comm _ _ e];exact h'.2
theorem headAny_lex {n g:Nat} {K:Act→Prop} (hsel:Region.noSelect ops=true) (hs:Region.sinkB .any ops n=true) (hc:Region.chainB .any ops n=true) (hn:n<ops.size) :
  ∀ (l:List Oper) (k:Nat) (s:Array Bool) (a:Act),(∀ j,j<l.length→l[j]?=ops[k+j]?)→k+l.length=n→HeadInv .any ops n s→Region.lexHead .any ops g l.length k s=true→wpQuiet P ops C K l a →
  headAny P ops C n (fun s' a'=>Region.seqB .any ops g n s'=true∧K a') l.length s a:=by
 intro l
 induction l with
 | nil =>
  intro k s a _ hk _ hB h
  obtain rfl:k=n:=by simpa using hk
  exact ⟨by simpa [Region.lexHead] using hB,h⟩
 | cons o l ih =>
  intro k s a hl hk inv hB h
  have h0:ops[k]?=some o:=by simpa using (hl 0 (by simp)).symm
  simp only [List.length_cons,Region.lexHead,Bool.and_eq_true] at hB
  simp only [List.length_cons] at hk
  have hr:k∈Region.ready .any ops s:=by simpa using hB.1.1
  obtain ⟨v,hy,hK⟩:=yieldsIn_of_qOp (K:=wpQuiet P ops C K l) h0 (by unfold qOp;simp only [h0];exact h)
  exact headAny_swap h0 (Region.noSelect_spec hsel) hs hc hn (by omega) (fun s' a' h'=>seqB_ready h'.1) l.length s a inv (Region.free_spec h0 hB.1.2) hr hy
   (ih (k+1) _ _ (fun j hj=>by have:=hl (j+1) (by simp;omega);simpa [Nat.add_assoc,Nat.add_comm 1 j] using this) (by omega) (inv.set hr (by omega)) hB.2 hK)
end
theorem wp_region_head_tail {P:Program} {id:Nat} {C:World→Prop} {Q:Exit→Act→World→Prop} {a:Act} {w:World} {l:List Oper} (n:Nat) (hm:P.follows .mixedOrders=true) (hB:Region.lexTailB .any l.toArray n=true)
  (hC:C w.drew) (h:wpQuiet P l.toArray C (fun a'=>∀ w',C w'→wpList P l.toArray Q (l.drop n) a' w') (l.take n) a):(Code.region id l.toArray true).wp P Q a w:=by
 simp only [Region.lexTailB,Bool.and_eq_true,decide_eq_true_eq] at hB
 obtain ⟨⟨⟨⟨hsel,hn⟩,hs⟩,hc⟩,hlex⟩:=hB
 have hn':n<l.length:=by simpa using hn
 have tl:(l.take n).length=n:=by simp;omega
 have dl:(l.drop n).length=l.toArray.size-n:=by simp
 have H:=headAny_lex (P:=P) (C:=C) (g:=l.toArray.size-n) hsel hs hc hn (l.take n) 0 (Array.replicate l.toArray.size false) a
  (fun j hj=>by rw [tl] at hj;simp [hj]) (by rw [tl];omega)
  ⟨by simp,fun j oj _ hj=>(by rw [getD_replicate_false] at hj;cases hj),fun t _ ht=>getD_in (by simpa using ht) (getD_replicate_false _ _)⟩ (by rw [tl];exact hlex) h
 have G:=headAny_wp (Q:=Q) (g:=l.toArray.size-n) (fun s a' w' hw' hL=>by
  have:=wpAny_of_seq (md:=.any) (Q':=Q) (l.drop n) n s a' w' (fun j=>by simp [List.getElem?_drop]) (by rw [dl];exact hL.1) (hL.2 w' hw')
  rwa [dl] at this) _ _ _ w.drew hC H
 rw [tl,show n+(l.toArray.size-n)=l.toArray.size by omega] at G
 exact wp_region_any hm G
theorem wp_region_later_tail {P:Program} {id:Nat} {Q:Exit→Act→World→Prop} {a:Act} {w:World} {u:Later w} {l:List Oper} (n:Nat) (hm:P.follows .mixedOrders=true) (hB:Region.lexTailB .any l.toArray n=true)
  (h:wpQuiet P l.toArray (fun w'=>∃ u:Later w,w'=u.now) (fun a'=>∀ w',(∃ u:Later w,w'=u.now)→wpList P l.toArray Q (l.drop n) a' w') (l.take n) a):(Code.region id l.toArray true).wp P Q a u.now :=
 wp_region_head_tail n hm hB ⟨⟨_,up_drew u.up⟩,rfl⟩ h
end Go.Proofs.Ytabinmabggnhbaa
namespace Go.Proofs.Ytabinmabggnhbaa
open Go.RowKit
def add64 (x y:Int):Int:=IntKind.i64.wrap (x+y)
def pdo (t X Y x y:Int):Int×Int:=(add64 (doT (t%8) x y).1 X,add64 (doT (t%8) x y).2 Y)
theorem move_any (x y:Int) (w:World):Calls Try.prog 34 #[.int .i64 x,.int .i64 y] w fun e w'=>e=.returned (.agg #[.int .i64 0,.int .i64 x,.int .i64 y])∧Below w.heap.size w w':=by
 go_enter Try.func34,Try.ntmps34
 go_wp2
 refine bodyPost_ret (v:=.agg #[.int .i64 0,.int .i64 x,.int .i64 y]) (by simp [results,Try.results34,go_sem]) rfl ⟨rfl,?_⟩
 repeat (first | (with_reducible exact Below.refl _ _) | (with_reducible apply up_alloc) | (with_reducible refine up_set ?_ (by simp only;omega) _))
theorem flipX_any (s:Int) (w:World):Calls Try.prog 67 #[.int .i64 s] w fun e w'=>e=.returned (.agg #[.int .i64 4,.int .i64 s,.int .i64 0])∧Below w.heap.size w w':=by
 go_enter Try.func67,Try.ntmps67
 go_wp2
 refine bodyPost_ret (v:=.agg #[.int .i64 4,.int .i64 s,.int .i64 0]) (by simp [results,Try.results67,go_sem]) rfl ⟨rfl,?_⟩
 repeat (first | (with_reducible exact Below.refl _ _) | (with_reducible apply up_alloc) | (with_reducible refine up_set ?_ (by simp only;omega) _))
theorem flipY_any (s:Int) (w:World):Calls Try.prog 66 #[.int .i64 s] w fun e w'=>e=.returned (.agg #[.int .i64 6,.int .i64 0,.int .i64 s])∧Below w.heap.size w w':=by
 go_enter Try.func66,Try.ntmps66
 go_wp2
 refine bodyPost_ret (v:=.agg #[.int .i64 6,.int .i64 0,.int .i64 s]) (by simp [results,Try.results66,go_sem]) rfl ⟨rfl,?_⟩
 repeat (first | (with_reducible exact Below.refl _ _) | (with_reducible apply up_alloc) | (with_reducible refine up_set ?_ (by simp only;omega) _))
theorem with_any (t x y:Int) (w:World):Calls Try.prog 63 #[.int .i64 t,.agg #[.int .i64 x,.int .i64 y]] w fun e w'=>e=.returned (.agg #[.int .i64 t,.int .i64 x,.int .i64 y])∧Below w.heap.size w w':=by
 go_enter Try.func63,Try.ntmps63
 go_wp2
 refine bodyPost_ret (v:=.agg #[.int .i64 t,.int .i64 x,.int .i64 y]) (by simp [results,Try.results63,go_sem]) rfl ⟨rfl,?_⟩
 repeat (first | (with_reducible exact Below.refl _ _) | (with_reducible apply up_alloc) | (with_reducible refine up_set ?_ (by simp only;omega) _))
theorem pdo_core (t X Y x y p q s1 s2:Int) (w:World) (e1:IntKind.i64.wrap (p+X)=s1) (e2:IntKind.i64.wrap (q+Y)=s2)
  (K:∀ w,Calls Try.prog 76 #[.int .i64 t,.agg #[.int .i64 x,.int .i64 y]] w fun e w'=>e=.returned (.agg #[.int .i64 p,.int .i64 q])∧Below w.heap.size w w') :
  Calls Try.prog 52 #[.agg #[.int .i64 t,.int .i64 X,.int .i64 Y],.agg #[.int .i64 x,.int .i64 y]] w fun e w'=>e=.returned (.agg #[.int .i64 s1,.int .i64 s2])∧Below w.heap.size w w':=by
 have HK:=Lib.hid K
 clear K
 go_enter Try.func52,Try.ntmps52
 go_wp2_with fail
 refine (HK.out _).mono ?_
 rintro e w1 ⟨rfl,hb⟩
 have A:=(((Bx.new w 35 [.int .i64 t,.int .i64 X,.int .i64 Y]).alloc (.cells #[.int .i64 x,.int .i64 y] 23)).alloc (.cells #[.int .i64 0,.int .i64 0] 23)).up hb
 have P:=((Bx.new (w.alloc (.cells #[.int .i64 t,.int .i64 X,.int .i64 Y] 35)) 23 [.int .i64 x,.int .i64 y]).alloc (.cells #[.int .i64 0,.int .i64 0] 23)).up hb
 have R:=(Bx.new ((w.alloc (.cells #[.int .i64 t,.int .i64 X,.int .i64 Y] 35)).alloc (.cells #[.int .i64 x,.int .i64 y] 23)) 23 [.int .i64 0,.int .i64 0]).up hb
 simp only [World.size_alloc] at P R
 have B1:=Lib.hid (up_trans (up_alloc (up_alloc (up_alloc (Below.refl _ w) _) _) _) hb)
 clear hb
 have a1:=A.cell 1 rfl;have a2:=A.cell 2 rfl
 have p0:=P.cell 0 rfl;have p1:=P.cell 1 rfl;have pf:=P.free
 have r0:=R.cell 0 rfl;have r1:=R.cell 1 rfl;have rf:=R.free
 clear A P R
 go_wp2
 refine bodyPost_ret (v:=.agg #[.int .i64 s1,.int .i64 s2]) (by simp [results,Try.results52,go_sem,r0,r1]) rfl ⟨rfl,?_⟩
 have B2:=B1.out
 repeat (first | (with_reducible exact B2) | (with_reducible refine up_set ?_ (by simp only;omega) _))
theorem pdo_any (t X Y x y:Int) (w:World) (h0:-9223372036854775808≤x) (h1:x≤9223372036854775807) (k0:-9223372036854775808≤y) (k1:y≤9223372036854775807) :
  Calls Try.prog 52 #[.agg #[.int .i64 t,.int .i64 X,.int .i64 Y],.agg #[.int .i64 x,.int .i64 y]] w fun e w'=>e=.returned (.agg #[.int .i64 (pdo t X Y x y).1,.int .i64 (pdo t X Y x y).2])∧Below w.heap.size w w' :=
 pdo_core t X Y x y _ _ _ _ w rfl rfl fun w=>turnDo_any t x y w h0 h1 k0 k1
theorem then_b (a b:Int) (w:World):Calls Try.prog 64 #[.int .i64 a,.int .i64 b] w fun e w'=>e=.returned (.int .i64 (thenT a b))∧Below w.heap.size w w' :=
 (turnThen_any a b w).mono fun _ _ ⟨he,hw⟩=>⟨he,by rw [hw];exact Below.refl _ _⟩
theorem pthen_core (t X Y t' X' Y' k x y:Int) (w:World)
  (KT:∀ w,Calls Try.prog 64 #[.int .i64 t,.int .i64 t'] w fun e w'=>e=.returned (.int .i64 k)∧Below w.heap.size w w')
  (KD:∀ w,Calls Try.prog 52 #[.agg #[.int .i64 t',.int .i64 X',.int .i64 Y'],.agg #[.int .i64 X,.int .i64 Y]] w fun e w'=>e=.returned (.agg #[.int .i64 x,.int .i64 y])∧Below w.heap.size w w')
  (KW:∀ w,Calls Try.prog 63 #[.int .i64 k,.agg #[.int .i64 x,.int .i64 y]] w fun e w'=>e=.returned (.agg #[.int .i64 k,.int .i64 x,.int .i64 y])∧Below w.heap.size w w') :
  Calls Try.prog 36 #[.agg #[.int .i64 t,.int .i64 X,.int .i64 Y],.agg #[.int .i64 t',.int .i64 X',.int .i64 Y']] w fun e w'=>e=.returned (.agg #[.int .i64 k,.int .i64 x,.int .i64 y])∧Below w.heap.size w w':=by
 have HT:=Lib.hid KT;have HD:=Lib.hid KD;have HW:=Lib.hid KW
 clear KT KD KW
 go_enter Try.func36,Try.ntmps36
 go_wp2_with fail
 have A:=((Bx.new w 35 [.int .i64 t,.int .i64 X,.int .i64 Y]).alloc (.cells #[.int .i64 t',.int .i64 X',.int .i64 Y'] 35)).alloc (.cells #[.int .i64 0,.int .i64 0,.int .i64 0] 35)
 have C:=(Bx.new (w.alloc (.cells #[.int .i64 t,.int .i64 X,.int .i64 Y] 35)) 35 [.int .i64 t',.int .i64 X',.int .i64 Y']).alloc (.cells #[.int .i64 0,.int .i64 0,.int .i64 0] 35)
 have R:=Bx.new ((w.alloc (.cells #[.int .i64 t,.int .i64 X,.int .i64 Y] 35)).alloc (.cells #[.int .i64 t',.int .i64 X',.int .i64 Y'] 35)) 35 [.int .i64 0,.int .i64 0,.int .i64 0]
 simp only [World.size_alloc] at C R
 have B1:=up_alloc (up_alloc (up_alloc (Below.refl _ w) (.cells #[.int .i64 t,.int .i64 X,.int .i64 Y] 35)) (.cells #[.int .i64 t',.int .i64 X',.int .i64 Y'] 35)) (.cells #[.int .i64 0,.int .i64 0,.int .i64 0] 35)
 generalize ((w.alloc (.cells #[.int .i64 t,.int .i64 X,.int .i64 Y] 35)).alloc (.cells #[.int .i64 t',.int .i64 X',.int .i64 Y'] 35)).alloc (.cells #[.int .i64 0,.int .i64 0,.int .i64 0] 35)=w1 at *
 have HB:=Lib.hid B1;clear B1
 have a0:=fun u:Later w1=>u.cell (A.cell 0 rfl);have a1:=fun u:Later w1=>u.cell (A.cell 1 rfl);have a2:=fun u:Later w1=>u.cell (A.cell 2 rfl)
 have c0:=fun u:Later w1=>u.cell (C.cell 0 rfl);have c1:=fun u:Later w1=>u.cell (C.cell 1 rfl);have c2:=fun u:Later w1=>u.cell (C.cell 2 rfl)
 clear A C
 refine later_start (w:=w1) ?_
 intro u
 refine wp_region_later_tail 13 (by kernel_rfl) (by kernel_rfl) ?_
 simp only [List.take_succ_cons,List.take_zero,List.drop_succ_cons,List.drop_zero]
 repeat (go_big_quiet_step (first
  | (go_at_call 64;with_reducible exact Later.call (HT.out _))
  | (go_at_call 52;with_reducible exact Later.call (HD.out _))
  | (go_at_call 63;with_reducible exact Later.call (HW.out _))))
 refine wpQuiet_nil ?_
 rintro _ ⟨u2,rfl⟩
 clear a0 a1 a2 c0 c1 c2
 have R2:=R.up u2.up
 have B:=up_trans HB.out u2.up
 have r0:=R2.cell 0 rfl;have r1:=R2.cell 1 rfl;have r2:=R2.cell 2 rfl;have rf:=R2.free
 clear R R2
 generalize u2.now=w2 at *
 go_wp2
 refine bodyPost_ret (v:=.agg #[.int .i64 k,.int .i64 x,.int .i64 y]) (by simp [results,Try.results36,go_sem,r0,r1,r2]) rfl ⟨rfl,?_⟩
 repeat (first | (with_reducible exact B) | (with_reducible apply up_alloc) | (with_reducible refine up_set ?_ (by simp only;omega) _))
theorem pthen_any (t X Y t' X' Y':Int) (w:World) (h0:-9223372036854775808≤X) (h1:X≤9223372036854775807) (k0:-9223372036854775808≤Y) (k1:Y≤9223372036854775807) :
  Calls Try.prog 36 #[.agg #[.int .i64 t,.int .i64 X,.int .i64 Y],.agg #[.int .i64 t',.int .i64 X',.int .i64 Y']] w fun e w'=>e=.returned (.agg #[.int .i64 (thenT t t'),.int .i64 (pdo t' X' Y' X Y).1,.int .i64 (pdo t' X' Y' X Y).2])∧Below w.heap.size w w' :=
 pthen_core t X Y t' X' Y' _ _ _ w (fun w=>then_b t t' w) (fun w=>pdo_any t' X' Y' X Y w h0 h1 k0 k1) (fun w=>with_any _ _ _ w)
theorem pbox_core (t X Y x0 y0 x1 y1 p0 p1 q0 q1 m0 m1 m2 m3:Int) (w:World) (e0:(if q0<p0 then q0 else p0)=m0) (e1:(if q1<p1 then q1 else p1)=m1) (e2:(if p0<q0 then q0 else p0)=m2) (e3:(if p1<q1 then q1 else p1)=m3)
  (KP:∀ w,Calls Try.prog 52 #[.agg #[.int .i64 t,.int .i64 X,.int .i64 Y],.agg #[.int .i64 x0,.int .i64 y0]] w fun e w'=>e=.returned (.agg #[.int .i64 p0,.int .i64 p1])∧Below w.heap.size w w')
  (KQ:∀ w,Calls Try.prog 52 #[.agg #[.int .i64 t,.int .i64 X,.int .i64 Y],.agg #[.int .i64 x1,.int .i64 y1]] w fun e w'=>e=.returned (.agg #[.int .i64 q0,.int .i64 q1])∧Below w.heap.size w w') :
  Calls Try.prog 27 #[.agg #[.int .i64 t,.int .i64 X,.int .i64 Y],.agg #[.int .i64 x0,.int .i64 y0,.int .i64 x1,.int .i64 y1]] w fun e w'=>e=.returned (.agg #[.int .i64 m0,.int .i64 m1,.int .i64 m2,.int .i64 m3])∧Below w.heap.size w w':=by
 have f0:min p0 q0=m0:=(min_if p0 q0).symm.trans e0
 have f1:min p1 q1=m1:=(min_if p1 q1).symm.trans e1
 have f2:max p0 q0=m2:=(max_if p0 q0).symm.trans e2
 have f3:max p1 q1=m3:=(max_if p1 q1).symm.trans e3
 have HP:=Lib.hid KP;have HQ:=Lib.hid KQ
 clear KP KQ
 go_enter Try.func27,Try.ntmps27
 go_wp2_with fail
 refine (HP.out _).mono ?_
 rintro e w1 ⟨rfl,hb⟩
 have A:=(((Bx.new w 35 [.int .i64 t,.int .i64 X,.int .i64 Y]).alloc (.cells #[.int .i64 x0,.int .i64 y0,.int .i64 x1,.int .i64 y1] 40)).alloc (.cells #[.int .i64 0,.int .i64 0,.int .i64 0,.int .i64 0] 40)).up hb
 have C:=((Bx.new (w.alloc (.cells #[.int .i64 t,.int .i64 X,.int .i64 Y] 35)) 40 [.int .i64 x0,.int .i64 y0,.int .i64 x1,.int .i64 y1]).alloc (.cells #[.int .i64 0,.int .i64 0,.int .i64 0,.int .i64 0] 40)).up hb
 have R:=(Bx.new ((w.alloc (.cells #[.int .i64 t,.int .i64 X,.int .i64 Y] 35)).alloc (.cells #[.int .i64 x0,.int .i64 y0,.int .i64 x1,.int .i64 y1] 40)) 40 [.int .i64 0,.int .i64 0,.int .i64 0,.int .i64 0]).up hb
 simp only [World.size_alloc] at C R
 have B1:=Lib.hid (up_trans (up_alloc (up_alloc (up_alloc (Below.refl _ w) _) _) _) hb)
 clear hb
 have A':=A.alloc (.cells #[.int .i64 p0,.int .i64 p1] 23)
 have C':=C.alloc (.cells #[.int .i64 p0,.int .i64 p1] 23)
 have R':=R.alloc (.cells #[.int .i64 p0,.int .i64 p1] 23)
 have P':=Bx.new w1 23 [.int .i64 p0,.int .i64 p1]
 have a0:=A'.cell 0 rfl;have a1:=A'.cell 1 rfl;have a2:=A'.cell 2 rfl
 have c2:=C'.cell 2 rfl;have c3:=C'.cell 3 rfl
 clear A C R A' C'
 go_wp2_with fail
 refine (HQ.out _).mono ?_
 rintro e w2 ⟨rfl,hb⟩
 have P2:=(P'.up hb).alloc (.cells #[.int .i64 q0,.int .i64 q1] 23)
 have R2:=(R'.up hb).alloc (.cells #[.int .i64 q0,.int .i64 q1] 23)
 have B:=up_trans (up_alloc B1.out _) hb
 clear hb R' P' a0 a1 a2 c2 c3
 have p0':=P2.cell 0 rfl;have p1':=P2.cell 1 rfl
 have r0:=R2.cell 0 rfl;have r1:=R2.cell 1 rfl;have r2:=R2.cell 2 rfl;have r3:=R2.cell 3 rfl;have rf:=R2.free
 clear R2 P2
 go_wp2
 refine bodyPost_ret (v:=.agg #[.int .i64 m0,.int .i64 m1,.int .i64 m2,.int .i64 m3]) (by simp [results,Try.results27,go_sem,r0,r1,r2,r3]) rfl ⟨rfl,?_⟩
 repeat (first | (with_reducible exact B) | (with_reducible apply up_alloc) | (with_reducible refine up_set ?_ (by simp only;omega) _))
theorem pbox_any (t X Y x0 y0 x1 y1:Int) (w:World) (h0:(Lit.int .i64 x0).wf=true) (h1:(Lit.int .i64 y0).wf=true) (h2:(Lit.int .i64 x1).wf=true) (h3:(Lit.int .i64 y1).wf=true) :
  Calls Try.prog 27 #[.agg #[.int .i64 t,.int .i64 X,.int .i64 Y],.agg #[.int .i64 x0,.int .i64 y0,.int .i64 x1,.int .i64 y1]] w fun e w'=>e=.returned (.agg #[.int .i64 (min (pdo t X Y x0 y0).1 (pdo t X Y x1 y1).1),.int .i64 (min (pdo t X Y x0 y0).2 (pdo t X Y x1 y1).2),.int .i64 (max (pdo t X Y x0 y0).1 (pdo t X Y x1 y1).1),.int .i64 (max (pdo t X Y x0 y0).2 (pdo t X Y x1 y1).2)])∧Below w.heap.size w w' :=
 pbox_core t X Y x0 y0 x1 y1 _ _ _ _ _ _ _ _ w (min_if _ _) (min_if _ _) (max_if _ _) (max_if _ _)
  (fun w=>pdo_any t X Y x0 y0 w (bounds_i64 h0).1 (bounds_i64 h0).2 (bounds_i64 h1).1 (bounds_i64 h1).2) (fun w=>pdo_any t X Y x1 y1 w (bounds_i64 h2).1 (bounds_i64 h2).2 (bounds_i64 h3).1 (bounds_i64 h3).2)
structure TMx where
 a:Int
 b:Int
 c:Int
 d:Int
def mx (r:Int):TMx :=
 if r=0 then ⟨1,0,0,1⟩ else if r=1 then ⟨0,1,-1,0⟩ else if r=2 then ⟨-1,0,0,-1⟩ else if r=3 then ⟨0,-1,1,0⟩
 else if r=4 then ⟨-1,0,0,1⟩ else if r=5 then ⟨0,-1,-1,0⟩ else if r=6 then ⟨1,0,0,-1⟩ else ⟨0,1,1,0⟩
set_option maxRecDepth 100000 in
set_option maxHeartbeats 1000000 in
theorem refTurnOf_any (t:Int) (w:World) :
  Calls Try.prog 71 #[.int .i64 t] w fun e w'=>e=.returned (.agg #[.int .i64 (mx (t%8)).a,.int .i64 (mx (t%8)).b,.int .i64 (mx (t%8)).c,.int .i64 (mx (t%8)).d])∧Below w.heap.size w w':=by
 have h:=and7 t
 obtain ⟨r,hr⟩:∃ r,t%8=r:=⟨_,rfl⟩
 have hr8:r=0∨r=1∨r=2∨r=3∨r=4∨r=5∨r=6∨r=7:=by omega
 rw [hr] at h ⊢
 clear hr
 rcases hr8 with rfl | rfl | rfl | rfl | rfl | rfl | rfl | rfl
 ·go_enter Try.func71,Try.ntmps71
  go_wp2
  refine wp_loop_rounds 1 ?_
  rw [rounds_succ]
  go_wp2
  refine bodyPost_ret (v:=.agg #[.int .i64 1,.int .i64 0,.int .i64 0,.int .i64 1]) (by simp [results,Try.results71,go_sem]) rfl ⟨rfl,?_⟩
  repeat (first | exact Below.refl _ _ | apply up_alloc | (refine up_set ?_ (by simp) _))
 ·go_enter Try.func71,Try.ntmps71
  go_wp2
  refine wp_loop_rounds 2 ?_
  rw [rounds_succ]
  go_wp2
  rw [rounds_succ]
  go_wp2
  refine bodyPost_ret (v:=.agg #[.int .i64 0,.int .i64 1,.int .i64 (-1),.int .i64 0]) (by simp [results,Try.results71,go_sem]) rfl ⟨rfl,?_⟩
  repeat (first | exact Below.refl _ _ | apply up_alloc | (refine up_set ?_ (by simp) _))
 ·go_enter Try.func71,Try.ntmps71
  go_wp2
  refine wp_loop_rounds 3 ?_
  rw [rounds_succ]
  go_wp2
  rw [rounds_succ]
  go_wp2
  rw [rounds_succ]
  go_wp2
  refine bodyPost_ret (v:=.agg #[.int .i64 (-1),.int .i64 0,.int .i64 0,.int .i64 (-1)]) (by simp [results,Try.results71,go_sem]) rfl ⟨rfl,?_⟩
  repeat (first | exact Below.refl _ _ | apply up_alloc | (refine up_set ?_ (by simp) _))
 ·go_enter Try.func71,Try.ntmps71
  go_wp2
  refine wp_loop_rounds 4 ?_
  rw [rounds_succ]
  go_wp2
  rw [rounds_succ]
  go_wp2
  rw [rounds_succ]
  go_wp2
  rw [rounds_succ]
  go_wp2
  refine bodyPost_ret (v:=.agg #[.int .i64 0,.int .i64 (-1),.int .i64 1,.int .i64 0]) (by simp [results,Try.results71,go_sem]) rfl ⟨rfl,?_⟩
  repeat (first | exact Below.refl _ _ | apply up_alloc | (refine up_set ?_ (by simp) _))
 ·go_enter Try.func71,Try.ntmps71
  go_wp2
  refine wp_loop_rounds 1 ?_
  rw [rounds_succ]
  go_wp2
  refine bodyPost_ret (v:=.agg #[.int .i64 (-1),.int .i64 0,.int .i64 0,.int .i64 1]) (by simp [results,Try.results71,go_sem]) rfl ⟨rfl,?_⟩
  repeat (first | exact Below.refl _ _ | apply up_alloc | (refine up_set ?_ (by simp) _))
 ·go_enter Try.func71,Try.ntmps71
  go_wp2
  refine wp_loop_rounds 2 ?_
  rw [rounds_succ]
  go_wp2
  rw [rounds_succ]
  go_wp2
  refine bodyPost_ret (v:=.agg #[.int .i64 0,.int .i64 (-1),.int .i64 (-1),.int .i64 0]) (by simp [results,Try.results71,go_sem]) rfl ⟨rfl,?_⟩
  repeat (first | exact Below.refl _ _ | apply up_alloc | (refine up_set ?_ (by simp) _))
 ·go_enter Try.func71,Try.ntmps71
  go_wp2
  refine wp_loop_rounds 3 ?_
  rw [rounds_succ]
  go_wp2
  rw [rounds_succ]
  go_wp2
  rw [rounds_succ]
  go_wp2
  refine bodyPost_ret (v:=.agg #[.int .i64 1,.int .i64 0,.int .i64 0,.int .i64 (-1)]) (by simp [results,Try.results71,go_sem]) rfl ⟨rfl,?_⟩
  repeat (first | exact Below.refl _ _ | apply up_alloc | (refine up_set ?_ (by simp) _))
 ·go_enter Try.func71,Try.ntmps71
  go_wp2
  refine wp_loop_rounds 4 ?_
  rw [rounds_succ]
  go_wp2
  rw [rounds_succ]
  go_wp2
  rw [rounds_succ]
  go_wp2
  rw [rounds_succ]
  go_wp2
  refine bodyPost_ret (v:=.agg #[.int .i64 0,.int .i64 1,.int .i64 1,.int .i64 0]) (by simp [results,Try.results71,go_sem]) rfl ⟨rfl,?_⟩
  repeat (first | exact Below.refl _ _ | apply up_alloc | (refine up_set ?_ (by simp) _))
def mdo (m:TMx) (x y:Int):Int×Int:=(IntKind.i64.wrap (IntKind.i64.wrap (m.a*x)+IntKind.i64.wrap (m.c*y)),IntKind.i64.wrap (IntKind.i64.wrap (m.b*x)+IntKind.i64.wrap (m.d*y)))
theorem up_drewNt {a w:World} (h:Below a.heap.size a w) (n:Nat):Below a.heap.size a (w.drewN n):=by
 induction n with
 | zero=>exact h
 | succ n ih=>exact up_drew ih
theorem refDo_w (m:TMx) (x y:Int) (w:World) :
  Calls Try.prog 72 #[.agg #[.int .i64 m.a,.int .i64 m.b,.int .i64 m.c,.int .i64 m.d],.int .i64 x,.int .i64 y] w fun e w'=>e=.returned (.tuple #[.int .i64 (mdo m x y).1,.int .i64 (mdo m x y).2])∧∃ n,w'=(w.alloc (.cells #[.int .i64 m.a,.int .i64 m.b,.int .i64 m.c,.int .i64 m.d] 77)).drewN n:=by
 obtain ⟨a,b,c,d⟩:=m
 unfold mdo
 simp only
 obtain ⟨p1,h1⟩:∃ p,IntKind.i64.wrap (a*x)=p:=⟨_,rfl⟩
 obtain ⟨p2,h2⟩:∃ p,IntKind.i64.wrap (c*y)=p:=⟨_,rfl⟩
 obtain ⟨p3,h3⟩:∃ p,IntKind.i64.wrap (b*x)=p:=⟨_,rfl⟩
 obtain ⟨p4,h4⟩:∃ p,IntKind.i64.wrap (d*y)=p:=⟨_,rfl⟩
 rw [h1,h2,h3,h4]
 obtain ⟨s1,k1⟩:∃ p,IntKind.i64.wrap (p1+p2)=p:=⟨_,rfl⟩
 obtain ⟨s2,k2⟩:∃ p,IntKind.i64.wrap (p3+p4)=p:=⟨_,rfl⟩
 rw [k1,k2]
 go_enter Try.func72,Try.ntmps72
 go_wp2_with fail
 go_quiet (fail)
 go_wp2
 go_ret2
 exact ⟨rfl,_,rfl⟩
theorem refDo_any (m:TMx) (x y:Int) (w:World) :
  Calls Try.prog 72 #[.agg #[.int .i64 m.a,.int .i64 m.b,.int .i64 m.c,.int .i64 m.d],.int .i64 x,.int .i64 y] w fun e w'=>e=.returned (.tuple #[.int .i64 (mdo m x y).1,.int .i64 (mdo m x y).2])∧Below w.heap.size w w' :=
 (refDo_w m x y w).mono fun _ _ ⟨he,n,hw⟩=>⟨he,by rw [hw];exact up_drewNt (up_alloc (Below.refl _ _) _) n⟩
def mthen (m n:TMx):TMx:=⟨(mdo n m.a m.b).1,(mdo n m.a m.b).2,(mdo n m.c m.d).1,(mdo n m.c m.d).2⟩
def CM4 (w:World) (B:Nat) (a0 a1 a2 a3:Int):Prop:=w.cell? ⟨B,0,none⟩=some (.int .i64 a0)∧w.cell? ⟨B,1,none⟩=some (.int .i64 a1)∧w.cell? ⟨B,2,none⟩=some (.int .i64 a2)∧w.cell? ⟨B,3,none⟩=some (.int .i64 a3)
theorem CM4.up {w w':World} {B:Nat} {a0 a1 a2 a3:Int} (h:CM4 w B a0 a1 a2 a3) (hb:Below w.heap.size w w'):CM4 w' B a0 a1 a2 a3:=⟨bl_cell hb h.1,bl_cell hb h.2.1,bl_cell hb h.2.2.1,bl_cell hb h.2.2.2⟩
set_option maxHeartbeats 400000 in
theorem refThen_any (m n:TMx) (w:World) :
  Calls Try.prog 70 #[.agg #[.int .i64 m.a,.int .i64 m.b,.int .i64 m.c,.int .i64 m.d],.agg #[.int .i64 n.a,.int .i64 n.b,.int .i64 n.c,.int .i64 n.d]] w fun e w'=>e=.returned (.agg #[.int .i64 (mthen m n).a,.int .i64 (mthen m n).b,.int .i64 (mthen m n).c,.int .i64 (mthen m n).d])∧Below w.heap.size w w':=by
 unfold mthen
 have K1:=fun w=>refDo_w n m.a m.b w
 have K2:=fun w=>refDo_w n m.c m.d w
 generalize mdo n m.a m.b=P at *
 generalize mdo n m.c m.d=Q at *
 obtain ⟨a,b,c,d⟩:=m
 obtain ⟨a',b',c',d'⟩:=n
 obtain ⟨p1,p2⟩:=P
 obtain ⟨q1,q2⟩:=Q
 have H1:=Lib.hid K1;have H2:=Lib.hid K2
 clear K1 K2
 go_enter Try.func70,Try.ntmps70
 go_wp2_with fail
 refine (H1.out _).mono ?_
 rintro e w1 ⟨rfl,n1,rfl⟩
 go_wp2_with fail
 refine (H2.out _).mono ?_
 rintro e w2 ⟨rfl,n2,rfl⟩
 go_wp2
 refine bodyPost_ret (v:=.agg #[.int .i64 p1,.int .i64 p2,.int .i64 q1,.int .i64 q2]) (by simp [results,Try.results70,go_sem]) rfl ⟨rfl,?_⟩
 repeat (first | (with_reducible exact Below.refl _ _) | (with_reducible apply up_drewNt) | (with_reducible apply up_alloc) | (with_reducible refine up_set ?_ (by simp only;omega) _))
def sameM4 (a0 a1 a2 a3 b0 b1 b2 b3:Int):Bool:=a0==b0&&a1==b1&&a2==b2&&a3==b3
theorem run_sameM (a0 a1 a2 a3 b0 b1 b2 b3:Int) (w:World):(binOp .eql 77 (.agg #[.int .i64 a0,.int .i64 a1,.int .i64 a2,.int .i64 a3]) (.agg #[.int .i64 b0,.int .i64 b1,.int .i64 b2,.int .i64 b3])).run Try.prog w=.ok (.bool (sameM4 a0 a1 a2 a3 b0 b1 b2 b3)) w:=by
 by_cases h0:a0=b0<;>by_cases h1:a1=b1<;>by_cases h2:a2=b2<;>by_cases h3:a3=b3
 all_goals simp [go_sem,sameM4,h0,h1,h2,h3]
theorem mx_apart (j k:Nat) (hj:j<8) (hk:k<8):sameM4 (mx (j:Int)).a (mx (j:Int)).b (mx (j:Int)).c (mx (j:Int)).d (mx (k:Int)).a (mx (k:Int)).b (mx (k:Int)).c (mx (k:Int)).d=decide (j=k):=by
 have:∀ j:Fin 8,∀ k:Fin 8,sameM4 (mx (j.val:Int)).a (mx (j.val:Int)).b (mx (j.val:Int)).c (mx (j.val:Int)).d (mx (k.val:Int)).a (mx (k.val:Int)).b (mx (k.val:Int)).c (mx (k.val:Int)).d=decide (j.val=k.val):=by decide +kernel
 exact this ⟨j,hj⟩ ⟨k,hk⟩
def MatRel (M:Nat) (w:World) (t:Value) (wr:World):Prop:=∃ k:Nat,k≤M∧t=.int .i64 (k:Int)∧∃ u:Later w,wr=u.now
set_option maxRecDepth 100000 in
set_option maxHeartbeats 400000 in
theorem refTurn_yes (k:Nat) (hk:k<8) (w:World) :
  Calls Try.prog 69 #[.agg #[.int .i64 (mx (k:Int)).a,.int .i64 (mx (k:Int)).b,.int .i64 (mx (k:Int)).c,.int .i64 (mx (k:Int)).d]] w fun e w'=>e=.returned (.int .i64 (k:Int))∧Below w.heap.size w w':=by
 have HE:=Lib.hid (fun j hj=>mx_apart j k hj hk)
 generalize mx (k:Int)=m at *
 obtain ⟨a,b,c,d⟩:=m
 simp only at HE
 go_enter Try.func69,Try.ntmps69
 go_wp2_with fail
 have R:CM4 (w.alloc (.cells #[.int .i64 a,.int .i64 b,.int .i64 c,.int .i64 d] 77)) w.heap.size a b c d:=⟨by simp [go_sem],by simp [go_sem],by simp [go_sem],by simp [go_sem]⟩
 have HU:=Lib.hid (up_alloc (Below.refl w.heap.size w) (.cells #[.int .i64 a,.int .i64 b,.int .i64 c,.int .i64 d] 77))
 generalize (w.alloc (.cells #[.int .i64 a,.int .i64 b,.int .i64 c,.int .i64 d] 77))=w1 at *
 have jR0:=fun u:Later w1=>u.cell R.1;have jR1:=fun u:Later w1=>u.cell R.2.1;have jR2:=fun u:Later w1=>u.cell R.2.2.1;have jR3:=fun u:Later w1=>u.cell R.2.2.2
 clear R
 go_loopw [3] (fun t wr=>MatRel k w1 t wr) (fun t _=>8-(intOf t).toNat)
 case atStart=>exact ⟨0,by omega,by go_num,⟨w1,Below.refl _ _⟩,rfl⟩
 case round =>
  obtain ⟨j,hj,rfl,u,rfl⟩:=hrel
  have j8:(j:Int)<8:=by omega
  have K:=fun w=>refTurnOf_any (j:Int) w
  rw [show (j:Int)%8=(j:Int) by omega] at K
  have hE:=HE.out j (by omega)
  generalize mx (j:Int)=n at *
  obtain ⟨a',b',c',d'⟩:=n
  simp only at hE
  have q:=fun w=>run_sameM a' b' c' d' a b c d w
  rw [hE] at q
  have HK:=Lib.hid K
  clear K hE
  by_cases hjk:j=k
  ·subst hjk
   simp only [decide_true] at q
   go_wp2_with fail
   refine wp_region_later (by kernel_rfl) (by kernel_rfl) ?_
   repeat (go_big_quiet_step ((go_at_call 71;with_reducible exact Later.call (HK.out _))))
   refine wpQuiet_nil ?_
   rintro _ ⟨u2,rfl⟩
   go_wp2
   go_ret
   exact ⟨rfl,up_trans HU.out u2.up⟩
  ·simp only [hjk,decide_false] at q
   go_wp2_with fail
   refine wp_region_later (by kernel_rfl) (by kernel_rfl) ?_
   repeat (go_big_quiet_step ((go_at_call 71;with_reducible exact Later.call (HK.out _))))
   refine wpQuiet_nil ?_
   rintro _ ⟨u2,rfl⟩
   go_wp2_with fail
   go_roundw
   case rel=>exact ⟨j+1,by omega,by go_num,u2,rfl⟩
   case measure=>simp [intOf];omega
theorem mir_mod (t:Int):mir (t%8)=mir t:=by unfold mir;rw [show t%8%8=t%8 by omega]
theorem then_mod (a b:Int):thenT a b=thenT (a%8) (b%8):=by
 unfold thenT
 rw [mir_mod,mir_mod,rem4,rem4]
theorem fin8 (a:Int):∃ i:Fin 8,a%8=(i.val:Int):=⟨⟨(a%8).toNat,by omega⟩,by simp;omega⟩
theorem then_in (i j:Fin 8):0≤thenT (i.val:Int) (j.val:Int)∧thenT (i.val:Int) (j.val:Int)≤7:=by
 have:∀ i j:Fin 8,0≤thenT (i.val:Int) (j.val:Int)∧thenT (i.val:Int) (j.val:Int)≤7:=by decide +kernel
 exact this i j
theorem mat_then (i j:Fin 8):mthen (mx (i.val:Int)) (mx (j.val:Int))=mx (thenT (i.val:Int) (j.val:Int)):=by
 have:∀ i j:Fin 8,(mthen (mx (i.val:Int)) (mx (j.val:Int))).a=(mx (thenT (i.val:Int) (j.val:Int))).a∧(mthen (mx (i.val:Int)) (mx (j.val:Int))).b=(mx (thenT (i.val:Int) (j.val:Int))).b∧(mthen (mx (i.val:Int)) (mx (j.val:Int))).c=(mx (thenT (i.val:Int) (j.val:Int))).c∧(mthen (mx (i.val:Int)) (mx (j.val:Int))).d=(mx (thenT (i.val:Int) (j.val:Int))).d:=by decide +kernel
 obtain ⟨h1,h2,h3,h4⟩:=this i j
 generalize mthen (mx (i.val:Int)) (mx (j.val:Int))=P at *
 generalize mx (thenT (i.val:Int) (j.val:Int))=Q at *
 obtain ⟨a,b,c,d⟩:=P
 obtain ⟨a',b',c',d'⟩:=Q
 simp only at h1 h2 h3 h4
 rw [h1,h2,h3,h4]
theorem mat_does (i:Fin 8) (x y:Int) (h0:-9223372036854775808≤x) (h1:x≤9223372036854775807) (k0:-9223372036854775808≤y) (k1:y≤9223372036854775807):mdo (mx (i.val:Int)) x y=doT (i.val:Int) x y:=by
 have H:∀ r:Int,(r=0∨r=1∨r=2∨r=3∨r=4∨r=5∨r=6∨r=7)→mdo (mx r) x y=doT r x y:=by
  intro r hr
  rcases hr with rfl | rfl | rfl | rfl | rfl | rfl | rfl | rfl
  all_goals
   simp only [mdo,mx,doT,neg64,IntKind.wrap_i64]
   refine Prod.ext ?_ ?_<;>simp<;>omega
 have hi:=i.isLt
 exact H _ (by omega)
theorem eight {p:Int→Prop} (h0:p 0) (h1:p 1) (h2:p 2) (h3:p 3) (h4:p 4) (h5:p 5) (h6:p 6) (h7:p 7) (i:Fin 8):p (i.val:Int):=by
 have hi:=i.isLt
 have:(i.val:Int)=0∨(i.val:Int)=1∨(i.val:Int)=2∨(i.val:Int)=3∨(i.val:Int)=4∨(i.val:Int)=5∨(i.val:Int)=6∨(i.val:Int)=7:=by omega
 rcases this with e | e | e | e | e | e | e | e<;>rw [e]<;>assumption
def sw (r:Int):Bool:=r==1 || r==3 || r==5 || r==7
def n1 (r:Int):Bool:=r==1 || r==2 || r==4 || r==5
def n2 (r:Int):Bool:=r==2 || r==3 || r==5 || r==6
def sg (b:Bool) (v:Int):Int:=if b=true then neg64 v else v
theorem do_sg (i:Fin 8) (x y:Int):doT (i.val:Int) x y=(sg (n1 (i.val:Int)) (if sw (i.val:Int)=true then y else x),sg (n2 (i.val:Int)) (if sw (i.val:Int)=true then x else y)):=by
 refine eight (p:=fun r=>doT r x y=(sg (n1 r) (if sw r=true then y else x),sg (n2 r) (if sw r=true then x else y))) ?_ ?_ ?_ ?_ ?_ ?_ ?_ ?_ i<;>rfl
theorem sg_sg (a b:Bool) (v:Int) (h0:-9223372036854775808≤v) (h1:v≤9223372036854775807):sg a (sg b v)=sg (a != b) v:=by
 cases a<;>cases b<;>simp only [sg,bne_self_eq_false,if_true,if_false,Bool.false_eq_true,Bool.bne_false,Bool.bne_true,Bool.not_false]
 exact neg_neg64 v h0 h1
theorem sg_add (a:Bool) (u v:Int):sg a (add64 u v)=add64 (sg a u) (sg a v):=by
 cases a
 ·rfl
 ·simp only [sg,neg64,add64,if_true,IntKind.wrap_i64];omega
theorem then_sg (i j:Fin 8):sw (thenT (i.val:Int) (j.val:Int))=(sw (j.val:Int) != sw (i.val:Int)) ∧
  n1 (thenT (i.val:Int) (j.val:Int))=(n1 (j.val:Int) != (if sw (j.val:Int)=true then n2 (i.val:Int) else n1 (i.val:Int))) ∧
  n2 (thenT (i.val:Int) (j.val:Int))=(n2 (j.val:Int) != (if sw (j.val:Int)=true then n1 (i.val:Int) else n2 (i.val:Int))):=by
 have:∀ i j:Fin 8,sw (thenT (i.val:Int) (j.val:Int))=(sw (j.val:Int) != sw (i.val:Int)) ∧
  n1 (thenT (i.val:Int) (j.val:Int))=(n1 (j.val:Int) != (if sw (j.val:Int)=true then n2 (i.val:Int) else n1 (i.val:Int))) ∧
  n2 (thenT (i.val:Int) (j.val:Int))=(n2 (j.val:Int) != (if sw (j.val:Int)=true then n1 (i.val:Int) else n2 (i.val:Int))):=by decide +kernel
 exact this i j
theorem int_fin {r:Int} (h0:0≤r) (h7:r≤7):∃ k:Fin 8,r=(k.val:Int):=⟨⟨r.toNat,by omega⟩,by simp;omega⟩
theorem do_then (i j:Fin 8) (x y:Int) (h0:-9223372036854775808≤x) (h1:x≤9223372036854775807) (k0:-9223372036854775808≤y) (k1:y≤9223372036854775807) :
  doT (thenT (i.val:Int) (j.val:Int)) x y=doT (j.val:Int) (doT (i.val:Int) x y).1 (doT (i.val:Int) x y).2:=by
 obtain ⟨r0,r7⟩:=then_in i j
 obtain ⟨k,hk⟩:=int_fin r0 r7
 obtain ⟨e1,e2,e3⟩:=then_sg i j
 rw [hk,do_sg k,do_sg j,do_sg i,←hk,e1,e2,e3]
 cases hj:sw (j.val:Int)<;>cases hi:sw (i.val:Int)<;>simp [sg_sg,h0,h1,k0,k1]
theorem do_add (i:Fin 8) (x y X Y:Int):doT (i.val:Int) (add64 x X) (add64 y Y)=(add64 (doT (i.val:Int) x y).1 (doT (i.val:Int) X Y).1,add64 (doT (i.val:Int) x y).2 (doT (i.val:Int) X Y).2):=by
 rw [do_sg i,do_sg i,do_sg i]
 cases hi:sw (i.val:Int)<;>simp [sg_add]
theorem add_assoc64 (x y z:Int):add64 (add64 x y) z=add64 x (add64 y z):=by simp only [add64,IntKind.wrap_i64];omega
theorem pdo_then (t X Y t' X' Y' x y:Int) (h0:-9223372036854775808≤x) (h1:x≤9223372036854775807) (k0:-9223372036854775808≤y) (k1:y≤9223372036854775807) :
  pdo (thenT t t') (pdo t' X' Y' X Y).1 (pdo t' X' Y' X Y).2 x y=pdo t' X' Y' (pdo t X Y x y).1 (pdo t X Y x y).2:=by
 obtain ⟨i,hi⟩:=fin8 t
 obtain ⟨j,hj⟩:=fin8 t'
 obtain ⟨r0,r7⟩:=then_in i j
 unfold pdo
 rw [then_mod,hi,hj,show thenT (i.val:Int) (j.val:Int)%8=thenT (i.val:Int) (j.val:Int) by omega,do_then i j x y h0 h1 k0 k1]
 simp only [do_add,add_assoc64]
def cellJ (i:Nat):Nat:=if i<11 then i+1 else i+5
def jobL (t:ByteArray) (n:Nat→Int) (c r:Int) (fv lv:Value):List Value :=
 .string t :: .int .i64 (n 0) :: .int .i64 (n 1) :: .int .i64 (n 2) :: .int .i64 (n 3) :: .int .i64 (n 4) :: .int .i64 (n 5) :: .int .i64 (n 6) :: .int .i64 (n 7) :: .int .i64 (n 8) :: .int .i64 (n 9) :: .int .i64 (n 10) :: .int .i64 c :: .int .i64 r :: fv :: lv :: .int .i64 (n 11) :: .int .i64 (n 12) :: .int .i64 (n 13) :: .int .i64 (n 14) :: .int .i64 (n 15) :: .int .i64 (n 16) :: .int .i64 (n 17) :: .int .i64 (n 18) :: .int .i64 (n 19) :: .int .i64 (n 20) :: .int .i64 (n 21) :: .int .i64 (n 22) :: .int .i64 (n 23) :: .int .i64 (n 24) :: .int .i64 (n 25) :: .int .i64 (n 26) :: .int .i64 (n 27) :: []
theorem jobL_length (t:ByteArray) (n:Nat→Int) (c r:Int) (fv lv:Value):(jobL t n c r fv lv).length=33:=rfl
theorem num_ways {i:Nat} (h:i<28):i=0∨i=1∨i=2∨i=3∨i=4∨i=5∨i=6∨i=7∨i=8∨i=9∨i=10∨i=11∨i=12∨i=13∨i=14∨i=15∨i=16∨i=17∨i=18∨i=19∨i=20∨i=21∨i=22∨i=23∨i=24∨i=25∨i=26∨i=27:=by omega
theorem job_at (t:ByteArray) (n:Nat→Int) (c r:Int) (fv lv:Value) {i:Nat} (h:i<28):(jobL t n c r fv lv)[cellJ i]?=some (.int .i64 (n i)):=by
 rcases num_ways h with rfl | rfl | rfl | rfl | rfl | rfl | rfl | rfl | rfl | rfl | rfl | rfl | rfl | rfl | rfl | rfl | rfl | rfl | rfl | rfl | rfl | rfl | rfl | rfl | rfl | rfl | rfl | rfl<;>rfl
def setN (n:Nat→Int) (i:Nat) (z:Int):Nat→Int:=fun j=>if j=i then z else n j
theorem job_set (t:ByteArray) (n:Nat→Int) (c r:Int) (fv lv:Value) {i:Nat} (h:i<28) (z:Int):(jobL t n c r fv lv).set (cellJ i) (.int .i64 z)=jobL t (setN n i z) c r fv lv:=by
 rcases num_ways h with rfl | rfl | rfl | rfl | rfl | rfl | rfl | rfl | rfl | rfl | rfl | rfl | rfl | rfl | rfl | rfl | rfl | rfl | rfl | rfl | rfl | rfl | rfl | rfl | rfl | rfl | rfl | rfl<;>rfl
theorem job_one (t:ByteArray) (n:Nat→Int) (c r:Int) (a:Option Addr) (k d:Nat) (a':Option Addr) (k' d':Nat):(jobL t n c r (.slice a k d) (.slice a' k' d')).toArray.all (·.oneCell')=true:=by
 rw [List.all_toArray];rfl
def numsL (n:Nat→Int):List Int:=(List.range 28).map n
def fromL:List Int:=[1,-5000000,-5000000,1,1,0,0,0,0,0,1,1,1,1,0,0,0,0,0,1,0,0,0,0,0,0,1,0]
def toL:List Int:=[100000,5000000,5000000,5000000,5000000,5000000,5000000,5000000,5000000,5000000,4,4,5000000,5000000,5000000,5000000,5000000,100000,1000,1000,3,5000000,5000000,5000000,5000000,5000000,1000,5000000]
def lowJ (i:Nat):Int:=fromL.getD i 0
def topJ (i:Nat):Int:=toL.getD i 0
def okJ (n:Nat→Int) (i:Nat):Bool:=decide (lowJ i≤n i)&&decide (n i≤topJ i)
def firstJ (n:Nat→Int):Int:=match (List.range 28).find? (fun i=>!okJ n i) with
 | some i=>(i:Int)
 | none=>-1
theorem firstJ_at {n:Nat→Int} {k:Nat} (hk:k<28) (h:∀ j,j<k→okJ n j=true) (h0:okJ n k=false):firstJ n=(k:Int):=by
 have:(List.range 28).find? (fun i=>!okJ n i)=some k:=by
  rw [List.find?_range_eq_some]
  exact ⟨by simp [h0],List.mem_range.2 hk,fun j hj=>by simp [h j hj]⟩
 unfold firstJ
 rw [this]
theorem firstJ_none {n:Nat→Int} (h:∀ j,j<28→okJ n j=true):firstJ n=-1:=by
 have:(List.range 28).find? (fun i=>!okJ n i)=none:=by
  rw [List.find?_range_eq_none]
  exact fun j hj=>by simp [h j hj]
 unfold firstJ
 rw [this]
theorem okJ_snoc {n:Nat→Int} {k:Nat} (h:∀ j,j<k→okJ n j=true) (h0:okJ n k=true):∀ j,j<k+1→okJ n j=true:=fun j hj=>by
 by_cases e:j=k
 ·rw [e];exact h0
 ·exact h j (by omega)
theorem numsL_at (n:Nat→Int) {i:Nat} (h:i<28):(numsL n)[i]?=some (n i):=by
 unfold numsL
 rw [List.getElem?_map,List.getElem?_range h]
 rfl
theorem low_at {i:Nat} (h:i<28):fromL[i]?=some (lowJ i):=by
 rcases num_ways h with rfl | rfl | rfl | rfl | rfl | rfl | rfl | rfl | rfl | rfl | rfl | rfl | rfl | rfl | rfl | rfl | rfl | rfl | rfl | rfl | rfl | rfl | rfl | rfl | rfl | rfl | rfl | rfl<;>rfl
theorem top_at {i:Nat} (h:i<28):toL[i]?=some (topJ i):=by
 rcases num_ways h with rfl | rfl | rfl | rfl | rfl | rfl | rfl | rfl | rfl | rfl | rfl | rfl | rfl | rfl | rfl | rfl | rfl | rfl | rfl | rfl | rfl | rfl | rfl | rfl | rfl | rfl | rfl | rfl<;>rfl
theorem in_any (n lo hi:Int) (w:World) :
  Calls Try.prog 74 #[.int .i64 n,.int .i64 lo,.int .i64 hi] w fun e w'=>e=.returned (.bool (decide (lo≤n)&&decide (n≤hi)))∧w=w':=by
 by_cases h1:lo≤n<;>by_cases h2:n≤hi
 all_goals
  go_enter Try.func74,Try.ntmps74
  go_wp2
  go_ret
  exact ⟨by simp [h1,h2],rfl⟩
def inB (n lo hi:Int):Bool:=decide (lo≤n)&&decide (n≤hi)
theorem refIn_any (n lo hi:Int) (w:World) :
  Calls Try.prog 59 #[.int .i64 n,.int .i64 lo,.int .i64 hi] w fun e w'=>e=.returned (.bool (inB n lo hi))∧w'=w:=by
 by_cases h1:lo≤n<;>by_cases h2:n≤hi
 all_goals
  go_enter Try.func59,Try.ntmps59
  go_wp2
  go_ret
  exact ⟨by simp [inB,h1,h2],rfl⟩
end Go.Proofs.Ytabinmabggnhbaa
namespace Go.Proofs.Ytabinmabggnhbaa
structure Sp where
 d:Int
 n:Int
 u:Bool
deriving DecidableEq
structure Sc where
 c:Int
 r:Int
 l:List Sp
deriving DecidableEq
def sideB (n:Int):Bool:=decide (1≤n)&&decide (n≤64)
theorem sideB_true {n:Int} (h:sideB n=true):1≤n∧n≤64:=by simpa [sideB] using h
end Go.Proofs.Ytabinmabggnhbaa
namespace Go.Proofs.Ytabinmabggnhbaa
open Go.RowKit
def InS (w:World) (b off:Nat) (l:List Sp):Prop:=∀ j p,l[j]?=some p→w.cell? ⟨b,off+j*3,none⟩=some (.int .i64 p.d)∧w.cell? ⟨b,off+j*3+1,none⟩=some (.int .i64 p.n)∧w.cell? ⟨b,off+j*3+2,none⟩=some (.bool p.u)
theorem InS.up {w w':World} {b off:Nat} {l:List Sp} (h:InS w b off l) (hb:Below w.heap.size w w'):InS w' b off l:=fun j p hp=>by
 obtain ⟨c0,c1,c2⟩:=h j p hp
 exact ⟨bl_cell hb c0,bl_cell hb c1,bl_cell hb c2⟩
def panM (c r:Int):Int:=if (sideB c&&sideB r)=true then c*r else 0
theorem pan_in {c r:Int} (h:(sideB c&&sideB r)=true):1≤c*r∧c*r≤4096:=by
 rw [Bool.and_eq_true] at h
 have h1:=sideB_true h.1
 have h2:=sideB_true h.2
 have h3:c*r≤64*64:=Int.mul_le_mul h1.2 h2.2 (by omega) (by omega)
 have h4:0<c*r:=Int.mul_pos (by omega) (by omega)
 omega
theorem schIsSide_any (n:Int) (w:World) :
  Calls Try.prog 75 #[.int .i64 n] w fun e w'=>e=.returned (.bool (sideB n))∧w=w':=by
 have H:=Lib.hid fun w=>in_any n 1 64 w
 go_enter Try.func75,Try.ntmps75
 go_wp2_with fail
 refine (H.out _).mono ?_
 rintro e w1 ⟨rfl,rfl⟩
 go_wp2
 go_ret
 exact ⟨rfl,rfl⟩
set_option maxHeartbeats 1000000 in
theorem schPanels_any (c r:Int) (a:Option Addr) (n cap:Nat) (w:World) :
  Calls Try.prog 51 #[.agg #[.int .i64 c,.int .i64 r,.slice a n cap]] w fun e w'=>e=.returned (.int .i64 (panM c r))∧Below w.heap.size w w':=by
 have K1:=fun w=>schIsSide_any c w
 have K2:=fun w=>schIsSide_any r w
 have hp:panM c r=if (sideB c&&sideB r)=true then c*r else 0:=rfl
 have hi:=@pan_in c r
 obtain ⟨q,hq⟩:∃ q,c*r=q:=⟨_,rfl⟩
 rw [hq] at hp hi
 generalize panM c r=P at *
 generalize sideB c=x at *
 generalize sideB r=y at *
 have H1:=Lib.hid K1;have H2:=Lib.hid K2
 clear K1 K2
 cases x
 ·obtain rfl:P=0:=by simpa using hp
  clear hp hi
  go_enter Try.func51,Try.ntmps51
  go_wp2_with fail
  refine (H1.out _).mono ?_
  rintro e w1 ⟨rfl,rfl⟩
  go_wp2
  go_ret
  exact ⟨rfl,up_alloc (Below.refl _ _) _⟩
 cases y
 ·obtain rfl:P=0:=by simpa using hp
  clear hp hi
  go_enter Try.func51,Try.ntmps51
  go_wp2_with (first
   | (go_at_call 75;with_reducible refine (H1.out _).mono ?_;rintro e w' ⟨rfl,rfl⟩)
   | (go_at_call 75;with_reducible refine (H2.out _).mono ?_;rintro e w' ⟨rfl,rfl⟩))
  go_ret
  exact ⟨rfl,up_alloc (Below.refl _ _) _⟩
 ·obtain rfl:P=q:=by simpa using hp
  obtain ⟨q0,q1⟩:=hi rfl
  clear hp
  go_enter Try.func51,Try.ntmps51
  go_wp2_with (first
   | (go_at_call 75;with_reducible refine (H1.out _).mono ?_;rintro e w' ⟨rfl,rfl⟩)
   | (go_at_call 75;with_reducible refine (H2.out _).mono ?_;rintro e w' ⟨rfl,rfl⟩))
  go_ret
  exact ⟨rfl,up_alloc (Below.refl _ _) _⟩
set_option maxHeartbeats 1000000 in
theorem refPanels_any (c r:Int) (a:Option Addr) (n cap:Nat) (w:World) :
  Calls Try.prog 31 #[.agg #[.int .i64 c,.int .i64 r,.slice a n cap]] w fun e w'=>e=.returned (.int .i64 (panM c r))∧Below w.heap.size w w':=by
 have K1:=fun w=>refIn_any c 1 64 w
 have K2:=fun w=>refIn_any r 1 64 w
 have hp:panM c r=if (inB c 1 64&&inB r 1 64)=true then c*r else 0:=rfl
 have hi:(inB c 1 64&&inB r 1 64)=true→_:=@pan_in c r
 obtain ⟨q,hq⟩:∃ q,c*r=q:=⟨_,rfl⟩
 rw [hq] at hp hi
 generalize panM c r=P at *
 generalize inB c 1 64=x at *
 generalize inB r 1 64=y at *
 have H1:=Lib.hid K1;have H2:=Lib.hid K2
 clear K1 K2
 cases x
 ·obtain rfl:P=0:=by simpa using hp
  clear hp hi
  go_enter Try.func31,Try.ntmps31
  go_wp2_with fail
  refine (H1.out _).mono ?_
  rintro e w1 ⟨rfl,rfl⟩
  go_wp2
  go_ret
  exact ⟨rfl,up_alloc (Below.refl _ _) _⟩
 cases y
 ·obtain rfl:P=0:=by simpa using hp
  clear hp hi
  go_enter Try.func31,Try.ntmps31
  go_wp2_with (first
   | (go_at_call 59;with_reducible refine (H1.out _).mono ?_;rintro e w' ⟨rfl,rfl⟩)
   | (go_at_call 59;with_reducible refine (H2.out _).mono ?_;rintro e w' ⟨rfl,rfl⟩))
  go_ret
  exact ⟨rfl,up_alloc (Below.refl _ _) _⟩
 ·obtain rfl:P=q:=by simpa using hp
  obtain ⟨q0,q1⟩:=hi rfl
  clear hp
  go_enter Try.func31,Try.ntmps31
  go_wp2_with (first
   | (go_at_call 59;with_reducible refine (H1.out _).mono ?_;rintro e w' ⟨rfl,rfl⟩)
   | (go_at_call 59;with_reducible refine (H2.out _).mono ?_;rintro e w' ⟨rfl,rfl⟩))
  go_ret
  exact ⟨rfl,up_alloc (Below.refl _ _) _⟩
def InL (w:World) (a:Option Addr) (l:List Sp):Prop:=l=[]∨∃ b off,a=some ⟨b,off,none⟩∧InS w b off l
theorem InL.up {w w':World} {a:Option Addr} {l:List Sp} (h:InL w a l) (hb:Below w.heap.size w w'):InL w' a l:=h.imp id fun ⟨b,off,e,h⟩=>⟨b,off,e,h.up hb⟩
def w64 (x:Int):Int:=IntKind.i64.wrap x
theorem w64_def (x:Int):IntKind.i64.wrap x=w64 x:=rfl
theorem w64_same {x y:Int} (h:(x-y)%18446744073709551616=0):w64 x=w64 y:=by
 unfold w64
 simp only [IntKind.wrap_i64]
 omega
theorem w64_rounds (x:Int):(w64 x-x)%18446744073709551616=0:=by
 unfold w64
 simp only [IntKind.wrap_i64]
 omega
theorem w64_in (x:Int):-9223372036854775808≤w64 x∧w64 x≤9223372036854775807:=by
 unfold w64
 simp only [IntKind.wrap_i64]
 omega
theorem w64_self {x:Int} (h:-9223372036854775808≤x∧x≤9223372036854775807):w64 x=x:=by
 unfold w64
 simp only [IntKind.wrap_i64]
 omega
theorem w64_addL (x y:Int):w64 (w64 x+y)=w64 (x+y):=w64_same (by have:=w64_rounds x;omega)
theorem w64_mulL (x y:Int):w64 (w64 x*y)=w64 (x*y):=by
 refine w64_same ?_
 rw [←Int.sub_mul]
 have:=w64_rounds x
 obtain ⟨k,hk⟩:=Int.dvd_of_emod_eq_zero this
 rw [hk,Int.mul_assoc]
 exact Int.mul_emod_right _ _
theorem w64_w64 (x:Int):w64 (w64 x)=w64 x:=w64_self (w64_in x)
def I64 (x:Int):Prop:=-9223372036854775808≤x∧x≤9223372036854775807
def sizW (n:Nat→Int):Int:=w64 (n 9+n 3+n 8)
def sizH (n:Nat→Int):Int:=w64 (n 7+n 4+n 6)
end Go.Proofs.Ytabinmabggnhbaa
namespace Go.Proofs.Ytabinmabggnhbaa
open Go.Shelf
open Go.RowKit
def Tab (w : World) : Prop := Lib.TabIs Try.prog w "internal/strconv.uint64pow10" .u64 Lib.pow10Tab
theorem var_below {P:Program} {w w':World} {name:String} {cs:Array Value} (h:w.var? P name=some cs) (hb:Below w.heap.size w w'):w'.var? P name=some cs:=by
 unfold World.var? at *
 cases hg:P.globalNamed name with
 | none=>simp [hg] at h
 | some g =>
  simp only [hg,Option.bind_some] at h ⊢
  have hlt:g<w.heap.size:=by
   rcases Nat.lt_or_ge g w.heap.size with h' | h'
   ·exact h'
   ·simp [Array.getElem?_eq_none h'] at h
  rw [hb.block g hlt]
  exact h
theorem Tab.below {w w':World} (h:Tab w) (hb:Below w.heap.size w w'):Tab w':=var_below h hb
def Good (w:World):Prop :=
 Tab w ∧
 (∃ tp p, w.var? Try.prog "strconv.ErrSyntax" = some #[.iface tp p]) ∧ (∃ tp p, w.var? Try.prog "strconv.ErrRange" = some #[.iface tp p])
theorem Good.below {w w':World} (h:Good w) (hb:Below w.heap.size w w'):Good w':=by
 obtain ⟨a,⟨t1,p1,b⟩,t2,p2,c⟩:=h
 exact ⟨var_below a hb,⟨t1,p1,var_below b hb⟩,t2,p2,var_below c hb⟩
end Go.Proofs.Ytabinmabggnhbaa
namespace Go.Proofs.Ytabinmabggnhbaa
open Go.RowKit
def InG (w:World) (g:Nat) (l:List ByteArray):Prop:=∀ i p,l[i]?=some p→w.cell? ⟨g,i,none⟩=some (.string p)
theorem InG.up {w w':World} {g:Nat} {l:List ByteArray} (h:InG w g l) (hb:Below w.heap.size w w'):InG w' g l:=fun i p hp=>bl_cell hb (h i p hp)
def Strs (w:World) (v:Value) (m:Nat) (l:List ByteArray):Prop:=l.length=m∧((m=0∧v=.slice none 0 0)∨∃ g,0<m∧v=.slice (some ⟨g,0,none⟩) m m∧InG w g l)
theorem Strs.up {w w':World} {v:Value} {m:Nat} {l:List ByteArray} (h:Strs w v m l) (hb:Below w.heap.size w w'):Strs w' v m l:=by
 obtain ⟨h0,h1 | ⟨g,h1,h2,h3⟩⟩:=h
 ·exact ⟨h0,.inl h1⟩
 ·exact ⟨h0,.inr ⟨g,h1,h2,h3.up hb⟩⟩
def tx (l:List UInt8):ByteArray:=⟨l.toArray⟩
theorem tx_data (s:ByteArray):tx s.data.toList=s:=by simp [tx]
theorem size_data (s:ByteArray):s.data.toList.length=s.size:=Array.length_toList
def TxS (w:World) (v:Value) (ls:List (List UInt8)):Prop :=
 ∃ a c,v=.slice a ls.length c∧(ls=[]∨∃ g,a=some ⟨g,0,none⟩∧(∀ i l,ls[i]?=some l→w.cell? ⟨g,i,none⟩=some (.string (tx l)))∧ls.length≤c∧c≤maxLen)
theorem TxS.up {w w':World} {v:Value} {ls:List (List UInt8)} (h:TxS w v ls) (hb:Below w.heap.size w w'):TxS w' v ls:=by
 obtain ⟨a,c,h1,h2 | ⟨g,h2,h3,h4⟩⟩:=h
 ·exact ⟨a,c,h1,.inl h2⟩
 ·exact ⟨a,c,h1,.inr ⟨g,h2,fun i l hi=>bl_cell hb (h3 i l hi),h4⟩⟩
theorem TxS.nil (w:World):TxS w (.slice none 0 0) []:=⟨none,0,rfl,.inl rfl⟩
theorem TxS.cell {w:World} {a:Option Addr} {n c:Nat} {ls:List (List UInt8)} (h:TxS w (.slice a n c) ls) (h0:0<n):ls.length=n∧∃ g,a=some ⟨g,0,none⟩∧∀ i l,ls[i]?=some l→w.cell? ⟨g,i,none⟩=some (.string (tx l)):=by
 obtain ⟨a',c',h1,h2⟩:=h
 injection h1 with e1 e2 e3
 subst e1 e2
 refine ⟨rfl,?_⟩
 rcases h2 with rfl | ⟨g,h2,h3,_⟩
 ·simp at h0
 ·exact ⟨g,h2,h3⟩
def rowT (w:World) (base:Nat) (v:Value) (ls:List (List UInt8)):Prop:=w.ownsRow base 9 1 v ls.length (ls.map fun l=>.string (tx l))
theorem own_kept {w w':World} {base:Nat} {e:TypeId} {z n:Nat} {v:Value} {xs:List Value} (h:w.ownsRow base e z v n xs) (hb:∀ k,base≤k→k<w.heap.size→w'.heap[k]?=w.heap[k]?):w'.ownsRow base e z v n xs:=by
 obtain ⟨h0,h | ⟨g,cap,cur,h1,h2,h3,h4⟩⟩:=h
 ·exact ⟨h0,.inl h⟩
 ·exact ⟨h0,.inr ⟨g,cap,cur,h1,h2,(hb g h2 (Array.getElem?_eq_some_iff.1 h3).1).trans h3,h4⟩⟩
theorem rowT.kept {w w':World} {base:Nat} {v:Value} {ls:List (List UInt8)} (h:rowT w base v ls) (hb:∀ k,base≤k→k<w.heap.size→w'.heap[k]?=w.heap[k]?):rowT w' base v ls:=own_kept h hb
theorem rowT.up {w w':World} {base:Nat} {v:Value} {ls:List (List UInt8)} (h:rowT w base v ls) (hb:Below w.heap.size w w'):rowT w' base v ls:=h.kept fun k _ hk=>hb.block k hk
def encO (l:List UInt8):List Value:=l.map fun c=>.int .u8 (c.toNat:Int)
def rowB (w:World) (base:Nat) (v:Value) (l:List UInt8):Prop:=w.ownsRow base 5 1 v l.length (encO l)
theorem rowB.kept {w w':World} {base:Nat} {v:Value} {l:List UInt8} (h:rowB w base v l) (hb:∀ k,base≤k→k<w.heap.size→w'.heap[k]?=w.heap[k]?):rowB w' base v l:=own_kept h hb
theorem rowB.up {w w':World} {base:Nat} {v:Value} {l:List UInt8} (h:rowB w base v l) (hb:Below w.heap.size w w'):rowB w' base v l:=h.kept fun k _ hk=>hb.block k hk
end Go.Proofs.Ytabinmabggnhbaa
