/- Part 12 of the texts that the proofs of this seat share: SchemeRefOne, SchemeGet, SchemeRefTwo, RefEdge, RefEdges. -/
import Derived.Test.YtbbjileignefbaaGreatDoorPart3
import Derived.Test.YtbbjileignefbaaGreatDoorPart10
import Derived.Test.YtbbjileignefbaaGreatDoorPart11
import Derived.Test.YtbbjileignefbaaGreatDoorPart1
import Derived.Test.YtbbjileignefbaaGreatDoorPart9
import Derived.Test.YtbbjileignefbaaGreatDoorPart4
import Derived.Deep.RegionHeld3
import Derived.Deep.DeepCutAuto
import Derived.BigRegion
set_option linter.unusedVariables false
namespace Go.Proofs.YtbbjileignefbaaGreatDoor
open Go.RowKit DecMath
theorem cells_texts (w:World) (ls:List (List UInt8)) (hm:ls.length≤1000000):TxS (w.alloc (.cells (ls.map fun l=>Value.string (tx l)).toArray 9)) (.slice (some ⟨w.heap.size,0,none⟩) ls.length ls.length) ls:=by
 refine ⟨_,_,rfl,.inr ⟨w.heap.size,rfl,fun i l hi=>?_,Nat.le_refl _,by unfold maxLen;omega⟩⟩
 have hc:(w.alloc (.cells (ls.map fun l=>Value.string (tx l)).toArray 9)).heap[w.heap.size]?=some (.cells (ls.map fun l=>Value.string (tx l)).toArray 9 (0,0)):=heap_alloc_new w _
 unfold World.cell?
 simp only [hc]
 simp [hi]
def plansL:List (List UInt8):=catS.map fun e=>joinM (partsC e.2)
set_option maxHeartbeats 1000000 in
set_option maxRecDepth 100000 in
theorem refNames_any (w:World):Calls Tryz.prog 50 #[] w fun e w'=>∃ v,e=.returned v∧TxS w' v namesL∧Below w.heap.size w w':=by
 go_enter Tryz.func50,Tryz.ntmps50
 go_wp2
 go_ret
 exact ⟨_,rfl,cells_texts w namesL (by decide),up_alloc (Below.refl _ _) _⟩
set_option maxHeartbeats 1000000 in
set_option maxRecDepth 100000 in
theorem refPlans_any (w:World):Calls Tryz.prog 52 #[] w fun e w'=>∃ v,e=.returned v∧TxS w' v plansL∧Below w.heap.size w w':=by
 go_enter Tryz.func52,Tryz.ntmps52
 go_wp2
 go_ret
 exact ⟨_,rfl,cells_texts w plansL (by decide +kernel),up_alloc (Below.refl _ _) _⟩
theorem refWords_any (s:ByteArray) (w:World) (hs:s.size≤999999):Calls Tryz.prog 66 #[.string s] w fun e w'=>∃ v,e=.returned v∧TxS w' v ((fieldsL s.data.toList).getD [])∧Below w.heap.size w w':=by
 have K:=Lib.hid (refFields_any s w hs)
 go_enter Tryz.func66,Tryz.ntmps66
 go_wp2_with fail
 refine K.out.mono ?_
 rintro e w1 ⟨v,rfl,hv,hb⟩
 have HV:=Lib.hid hv;have HB:=Lib.hid hb
 clear hv hb
 go_wp2
 go_ret
 exact ⟨v,rfl,HV.out,HB.out⟩
theorem refPlain_len (X:ByteArray) (ls:List (List UInt8)) (w:World) (h:ls.length=0∨7<ls.length) (hl:ls.length≤1000001)
  (KW:∀ w,Calls Tryz.prog 66 #[.string X] w fun e w'=>∃ v,e=.returned v∧TxS w' v ls∧Below w.heap.size w w') :
  Calls Tryz.prog 51 #[.string X] w (GivesS none w):=by
 have HW:=Lib.hid KW
 clear KW
 obtain ⟨n,hn⟩:∃ n,ls.length=n:=⟨_,rfl⟩
 rw [hn] at h hl
 rcases h with rfl | h7
 ·go_enter Tryz.func51,Tryz.ntmps51
  go_wp2_with fail
  refine (HW.out _).mono ?_
  rintro e w1 ⟨v,rfl,hv,hb⟩
  obtain ⟨a,c,rfl,hA⟩:=hv.arg
  have A1:=((Bx.new w 26 [.int .i64 0,.int .i64 0,.slice none 0 0]).up hb).alloc (.cells #[.int .i64 0,.int .i64 0,.slice none 0 0] 26)
  have B1:=Lib.hid (up_alloc (up_trans (up_alloc (Below.refl _ w) _) hb) (.cells #[.int .i64 0,.int .i64 0,.slice none 0 0] 26))
  have a0:=A1.cell 0 rfl;have a1:=A1.cell 1 rfl;have a2:=A1.cell 2 rfl;have af:=A1.free
  clear hv hA hb A1
  go_wp2
  refine bodyPost_ret (v:=.tuple #[.agg #[.int .i64 0,.int .i64 0,.slice none 0 0],.bool false]) (by simp [results,Tryz.results51,go_sem,a0,a1,a2]) rfl (gives_none ?_)
  have B3:=B1.out
  repeat (first | (with_reducible exact B3) | (with_reducible refine up_set ?_ (by simp only;omega) _))
 ·have z0:((n:Int)==0)=false:=by simp;omega
  have z7:(7:Int)<(n:Int):=by omega
  go_enter Tryz.func51,Tryz.ntmps51
  go_wp2_with fail
  refine (HW.out _).mono ?_
  rintro e w1 ⟨v,rfl,hv,hb⟩
  obtain ⟨a,c,rfl,hA⟩:=hv.arg
  have A1:=((Bx.new w 26 [.int .i64 0,.int .i64 0,.slice none 0 0]).up hb).alloc (.cells #[.int .i64 0,.int .i64 0,.slice none 0 0] 26)
  have B1:=Lib.hid (up_alloc (up_trans (up_alloc (Below.refl _ w) _) hb) (.cells #[.int .i64 0,.int .i64 0,.slice none 0 0] 26))
  have a0:=A1.cell 0 rfl;have a1:=A1.cell 1 rfl;have a2:=A1.cell 2 rfl;have af:=A1.free
  clear hv hA hb A1
  go_wp2
  refine bodyPost_ret (v:=.tuple #[.agg #[.int .i64 0,.int .i64 0,.slice none 0 0],.bool false]) (by simp [results,Tryz.results51,go_sem,a0,a1,a2]) rfl (gives_none ?_)
  have B3:=B1.out
  repeat (first | (with_reducible exact B3) | (with_reducible refine up_set ?_ (by simp only;omega) _))
def FirstX (s:ByteArray) (k0:Nat):Prop:=k0≤s.size∧∀ k (h:k<s.size),k<k0→((((s[k].toNat:Nat):Int)) != 120)=true
set_option maxRecDepth 100000 in
set_option maxHeartbeats 2000000 in
theorem refPlain_nox (X H:ByteArray) (x:List UInt8) (t:List (List UInt8)) (w:World) (hn7:t.length≤6) (hH:tx x=H) (hx:FirstX H H.size) (hz:H.size≤1000000)
  (KW:∀ w,Calls Tryz.prog 66 #[.string X] w fun e w'=>∃ v,e=.returned v∧TxS w' v (x :: t)∧Below w.heap.size w w') :
  Calls Tryz.prog 51 #[.string X] w (GivesS none w):=by
 have HW:=Lib.hid KW;have HX:=Lib.hid hx;have HHH:=Lib.hid hH
 clear KW hx hH
 obtain ⟨n,hn⟩:∃ n,(x :: t).length=n:=⟨_,rfl⟩
 have z0:((n:Int)==0)=false:=by simp;rw [←hn];simp
 have z7:decide ((7:Int)<(n:Int))=false:=by simp;rw [←hn];simp;omega
 have n0:0<n:=by rw [←hn];simp
 go_enter Tryz.func51,Tryz.ntmps51
 go_wp2_with fail
 refine (HW.out _).mono ?_
 rintro e w1 ⟨v,rfl,hv,hb⟩
 obtain ⟨a,c,rfl,hA⟩:=hv.arg
 obtain ⟨g,o,rfl,hc,hcap,hmax⟩:=hA.resolve_left (by simp)
 have c0:=hc 0 x rfl
 rw [HHH.out,Nat.add_zero] at c0
 rw [hn] at hcap ⊢
 have hTS:=fun i l (hi:t[i]?=some l)=>hc (i+1) l (by simpa using hi)
 have HTS:=Lib.hid hTS
 have hRB:=Bx.new w 26 [.int .i64 0,.int .i64 0,.slice none 0 0]
 have A1:=(hRB.up hb).alloc (.cells #[.int .i64 0,.int .i64 0,.slice none 0 0] 26)
 have A9:=Lib.hid (hRB.up hb)
 have hbw:=up_trans (up_alloc (Below.refl _ w) _) hb
 have B9:=Lib.hid hbw
 have B1:=Lib.hid (up_alloc hbw (.cells #[.int .i64 0,.int .i64 0,.slice none 0 0] 26))
 have c1:=bl_cell (up_alloc (Below.refl _ w1) (.cells #[.int .i64 0,.int .i64 0,.slice none 0 0] 26)) c0
 have a0:=A1.cell 0 rfl;have a1:=A1.cell 1 rfl;have a2:=A1.cell 2 rfl;have af:=A1.free
 have N0:=Lib.hid hn
 clear hv hA hb A1 hc hn hTS hbw hRB
 go_wp2
 go_loopw [6] (fun i wr=>∃ k:Nat,k≤H.size∧i=.int .i64 (k:Int)∧wr=w1.alloc (.cells #[.int .i64 0,.int .i64 0,.slice none 0 0] 26)) (fun i _=>H.size-(intOf i).toNat)
 case atStart=>exact ⟨0,Nat.zero_le _,by go_num,rfl⟩
 case round =>
  obtain ⟨k,hk,rfl,rfl⟩:=hrel
  by_cases hlt:k<H.size
  ·have hzk:=HX.out.1
   have hxk:=HX.out.2 k (by omega) hlt
   obtain ⟨q,hq⟩:∃ q:Int,((H[k].toNat:Nat):Int)=q:=⟨_,rfl⟩
   rw [hq] at hxk
   have z1:(k:Int)<(H.size:Int):=by omega
   go_wp2
   go_roundw
   case rel=>exact ⟨k+1,by omega,by go_num,by trivial⟩
   case measure=>simp [intOf];omega
  ·have hk2:k=H.size:=by omega
   go_wp2
   refine bodyPost_ret (v:=.tuple #[.agg #[.int .i64 0,.int .i64 0,.slice none 0 0],.bool false]) (by simp [results,Tryz.results51,go_sem,a0,a1,a2]) rfl (gives_none ?_)
   have B3:=B1.out
   repeat (first | (with_reducible exact B3) | (with_reducible refine up_set ?_ (by simp only;omega) _))
set_option maxRecDepth 100000 in
set_option maxHeartbeats 4000000 in
theorem refPlain_sides (X H:ByteArray) (x:List UInt8) (t:List (List UInt8)) (w:World) (hn7:t.length≤6) (hH:tx x=H) (k0:Nat) (hk0:k0<H.size) (h120:((H[k0].toNat:Nat):Int)=120) (hx:FirstX H k0) (hz:H.size≤1000000) (P Q:ByteArray) (hP:H.extract 0 k0=P) (hQ:∀ w,(Instr.slice 9 (.string H) (some (.int .i64 ((k0:Int)+1))) none none).run Tryz.prog w=.ok (.string Q) w) (c r:Int) (u1 u2 v1 v2:Bool) (hbad:u1=false∨u2=false∨v1=false∨v2=false)
  (KP:∀ w,Calls Tryz.prog 67 #[.string P] w fun e w'=>e=.returned (.tuple #[.int .i64 c,.bool u1])∧w=w')
  (KQ:∀ w,Calls Tryz.prog 67 #[.string Q] w fun e w'=>e=.returned (.tuple #[.int .i64 r,.bool u2])∧w=w')
  (KC:∀ w,Calls Tryz.prog 32 #[.int .i64 c,.int .i64 1,.int .i64 64] w fun e w'=>e=.returned (.bool v1)∧w'=w)
  (KR:∀ w,Calls Tryz.prog 32 #[.int .i64 r,.int .i64 1,.int .i64 64] w fun e w'=>e=.returned (.bool v2)∧w'=w)
  (KW:∀ w,Calls Tryz.prog 66 #[.string X] w fun e w'=>∃ v,e=.returned v∧TxS w' v (x :: t)∧Below w.heap.size w w') :
  Calls Tryz.prog 51 #[.string X] w (GivesS none w):=by
 have HP:=Lib.hid KP;have HQ:=Lib.hid KQ;have HC:=Lib.hid KC;have HR:=Lib.hid KR
 clear KP KQ KC KR
 have z1:(k0:Int)<(H.size:Int):=by omega
 cases u1
 ·clear hbad
  have HW:=Lib.hid KW;have HX:=Lib.hid hx;have HHH:=Lib.hid hH
  clear KW hx hH
  obtain ⟨n,hn⟩:∃ n,(x :: t).length=n:=⟨_,rfl⟩
  have z0:((n:Int)==0)=false:=by simp;rw [←hn];simp
  have z7:decide ((7:Int)<(n:Int))=false:=by simp;rw [←hn];simp;omega
  have n0:0<n:=by rw [←hn];simp
  go_enter Tryz.func51,Tryz.ntmps51
  go_wp2_with fail
  refine (HW.out _).mono ?_
  rintro e w1 ⟨v,rfl,hv,hb⟩
  obtain ⟨a,c,rfl,hA⟩:=hv.arg
  obtain ⟨g,o,rfl,hc,hcap,hmax⟩:=hA.resolve_left (by simp)
  have c0:=hc 0 x rfl
  rw [HHH.out,Nat.add_zero] at c0
  rw [hn] at hcap ⊢
  have hTS:=fun i l (hi:t[i]?=some l)=>hc (i+1) l (by simpa using hi)
  have HTS:=Lib.hid hTS
  have hRB:=Bx.new w 26 [.int .i64 0,.int .i64 0,.slice none 0 0]
  have A1:=(hRB.up hb).alloc (.cells #[.int .i64 0,.int .i64 0,.slice none 0 0] 26)
  have A9:=Lib.hid (hRB.up hb)
  have hbw:=up_trans (up_alloc (Below.refl _ w) _) hb
  have B9:=Lib.hid hbw
  have B1:=Lib.hid (up_alloc hbw (.cells #[.int .i64 0,.int .i64 0,.slice none 0 0] 26))
  have c1:=bl_cell (up_alloc (Below.refl _ w1) (.cells #[.int .i64 0,.int .i64 0,.slice none 0 0] 26)) c0
  have a0:=A1.cell 0 rfl;have a1:=A1.cell 1 rfl;have a2:=A1.cell 2 rfl;have af:=A1.free
  have N0:=Lib.hid hn
  clear hv hA hb A1 hc hn hTS hbw hRB
  go_wp2
  go_loopw [6] (fun i wr=>∃ k:Nat,k≤k0∧i=.int .i64 (k:Int)∧wr=w1.alloc (.cells #[.int .i64 0,.int .i64 0,.slice none 0 0] 26)) (fun i _=>k0-(intOf i).toNat)
  case atStart=>exact ⟨0,Nat.zero_le _,by go_num,rfl⟩
  case round =>
   obtain ⟨k,hk,rfl,rfl⟩:=hrel
   by_cases hlt:k<k0
   ·have hzk:=HX.out.1
    have hxk:=HX.out.2 k (by omega) hlt
    obtain ⟨q,hq⟩:∃ q:Int,((H[k].toNat:Nat):Int)=q:=⟨_,rfl⟩
    rw [hq] at hxk
    have z1:(k:Int)<(H.size:Int):=by omega
    go_wp2
    go_roundw
    case rel=>exact ⟨k+1,by omega,by go_num,by trivial⟩
    case measure=>simp [intOf];omega
   ·obtain rfl:k=k0:=by omega
    go_wp2_with (first
     | (go_at_call 67;with_reducible refine (HP.out _).mono ?_;rintro e w' ⟨rfl,rfl⟩)
     | (go_at_call 67;with_reducible refine (HQ.out _).mono ?_;rintro e w' ⟨rfl,rfl⟩)
     | (go_at_call 32;with_reducible refine (HC.out _).mono ?_;rintro e w' ⟨rfl,rfl⟩)
     | (go_at_call 32;with_reducible refine (HR.out _).mono ?_;rintro e w' ⟨rfl,rfl⟩))
    refine bodyPost_ret (v:=.tuple #[.agg #[.int .i64 0,.int .i64 0,.slice none 0 0],.bool false]) (by simp [results,Tryz.results51,go_sem,a0,a1,a2]) rfl (gives_none ?_)
    have B3:=B1.out
    repeat (first | (with_reducible exact B3) | (with_reducible refine up_set ?_ (by simp only;omega) _))
 cases u2
 ·clear hbad
  have HW:=Lib.hid KW;have HX:=Lib.hid hx;have HHH:=Lib.hid hH
  clear KW hx hH
  obtain ⟨n,hn⟩:∃ n,(x :: t).length=n:=⟨_,rfl⟩
  have z0:((n:Int)==0)=false:=by simp;rw [←hn];simp
  have z7:decide ((7:Int)<(n:Int))=false:=by simp;rw [←hn];simp;omega
  have n0:0<n:=by rw [←hn];simp
  go_enter Tryz.func51,Tryz.ntmps51
  go_wp2_with fail
  refine (HW.out _).mono ?_
  rintro e w1 ⟨v,rfl,hv,hb⟩
  obtain ⟨a,c,rfl,hA⟩:=hv.arg
  obtain ⟨g,o,rfl,hc,hcap,hmax⟩:=hA.resolve_left (by simp)
  have c0:=hc 0 x rfl
  rw [HHH.out,Nat.add_zero] at c0
  rw [hn] at hcap ⊢
  have hTS:=fun i l (hi:t[i]?=some l)=>hc (i+1) l (by simpa using hi)
  have HTS:=Lib.hid hTS
  have hRB:=Bx.new w 26 [.int .i64 0,.int .i64 0,.slice none 0 0]
  have A1:=(hRB.up hb).alloc (.cells #[.int .i64 0,.int .i64 0,.slice none 0 0] 26)
  have A9:=Lib.hid (hRB.up hb)
  have hbw:=up_trans (up_alloc (Below.refl _ w) _) hb
  have B9:=Lib.hid hbw
  have B1:=Lib.hid (up_alloc hbw (.cells #[.int .i64 0,.int .i64 0,.slice none 0 0] 26))
  have c1:=bl_cell (up_alloc (Below.refl _ w1) (.cells #[.int .i64 0,.int .i64 0,.slice none 0 0] 26)) c0
  have a0:=A1.cell 0 rfl;have a1:=A1.cell 1 rfl;have a2:=A1.cell 2 rfl;have af:=A1.free
  have N0:=Lib.hid hn
  clear hv hA hb A1 hc hn hTS hbw hRB
  go_wp2
  go_loopw [6] (fun i wr=>∃ k:Nat,k≤k0∧i=.int .i64 (k:Int)∧wr=w1.alloc (.cells #[.int .i64 0,.int .i64 0,.slice none 0 0] 26)) (fun i _=>k0-(intOf i).toNat)
  case atStart=>exact ⟨0,Nat.zero_le _,by go_num,rfl⟩
  case round =>
   obtain ⟨k,hk,rfl,rfl⟩:=hrel
   by_cases hlt:k<k0
   ·have hzk:=HX.out.1
    have hxk:=HX.out.2 k (by omega) hlt
    obtain ⟨q,hq⟩:∃ q:Int,((H[k].toNat:Nat):Int)=q:=⟨_,rfl⟩
    rw [hq] at hxk
    have z1:(k:Int)<(H.size:Int):=by omega
    go_wp2
    go_roundw
    case rel=>exact ⟨k+1,by omega,by go_num,by trivial⟩
    case measure=>simp [intOf];omega
   ·obtain rfl:k=k0:=by omega
    go_wp2_with (first
     | (go_at_call 67;with_reducible refine (HP.out _).mono ?_;rintro e w' ⟨rfl,rfl⟩)
     | (go_at_call 67;with_reducible refine (HQ.out _).mono ?_;rintro e w' ⟨rfl,rfl⟩)
     | (go_at_call 32;with_reducible refine (HC.out _).mono ?_;rintro e w' ⟨rfl,rfl⟩)
     | (go_at_call 32;with_reducible refine (HR.out _).mono ?_;rintro e w' ⟨rfl,rfl⟩))
    refine bodyPost_ret (v:=.tuple #[.agg #[.int .i64 0,.int .i64 0,.slice none 0 0],.bool false]) (by simp [results,Tryz.results51,go_sem,a0,a1,a2]) rfl (gives_none ?_)
    have B3:=B1.out
    repeat (first | (with_reducible exact B3) | (with_reducible refine up_set ?_ (by simp only;omega) _))
 cases v1
 ·clear hbad
  have HW:=Lib.hid KW;have HX:=Lib.hid hx;have HHH:=Lib.hid hH
  clear KW hx hH
  obtain ⟨n,hn⟩:∃ n,(x :: t).length=n:=⟨_,rfl⟩
  have z0:((n:Int)==0)=false:=by simp;rw [←hn];simp
  have z7:decide ((7:Int)<(n:Int))=false:=by simp;rw [←hn];simp;omega
  have n0:0<n:=by rw [←hn];simp
  go_enter Tryz.func51,Tryz.ntmps51
  go_wp2_with fail
  refine (HW.out _).mono ?_
  rintro e w1 ⟨v,rfl,hv,hb⟩
  obtain ⟨a,c,rfl,hA⟩:=hv.arg
  obtain ⟨g,o,rfl,hc,hcap,hmax⟩:=hA.resolve_left (by simp)
  have c0:=hc 0 x rfl
  rw [HHH.out,Nat.add_zero] at c0
  rw [hn] at hcap ⊢
  have hTS:=fun i l (hi:t[i]?=some l)=>hc (i+1) l (by simpa using hi)
  have HTS:=Lib.hid hTS
  have hRB:=Bx.new w 26 [.int .i64 0,.int .i64 0,.slice none 0 0]
  have A1:=(hRB.up hb).alloc (.cells #[.int .i64 0,.int .i64 0,.slice none 0 0] 26)
  have A9:=Lib.hid (hRB.up hb)
  have hbw:=up_trans (up_alloc (Below.refl _ w) _) hb
  have B9:=Lib.hid hbw
  have B1:=Lib.hid (up_alloc hbw (.cells #[.int .i64 0,.int .i64 0,.slice none 0 0] 26))
  have c1:=bl_cell (up_alloc (Below.refl _ w1) (.cells #[.int .i64 0,.int .i64 0,.slice none 0 0] 26)) c0
  have a0:=A1.cell 0 rfl;have a1:=A1.cell 1 rfl;have a2:=A1.cell 2 rfl;have af:=A1.free
  have N0:=Lib.hid hn
  clear hv hA hb A1 hc hn hTS hbw hRB
  go_wp2
  go_loopw [6] (fun i wr=>∃ k:Nat,k≤k0∧i=.int .i64 (k:Int)∧wr=w1.alloc (.cells #[.int .i64 0,.int .i64 0,.slice none 0 0] 26)) (fun i _=>k0-(intOf i).toNat)
  case atStart=>exact ⟨0,Nat.zero_le _,by go_num,rfl⟩
  case round =>
   obtain ⟨k,hk,rfl,rfl⟩:=hrel
   by_cases hlt:k<k0
   ·have hzk:=HX.out.1
    have hxk:=HX.out.2 k (by omega) hlt
    obtain ⟨q,hq⟩:∃ q:Int,((H[k].toNat:Nat):Int)=q:=⟨_,rfl⟩
    rw [hq] at hxk
    have z1:(k:Int)<(H.size:Int):=by omega
    go_wp2
    go_roundw
    case rel=>exact ⟨k+1,by omega,by go_num,by trivial⟩
    case measure=>simp [intOf];omega
   ·obtain rfl:k=k0:=by omega
    go_wp2_with (first
     | (go_at_call 67;with_reducible refine (HP.out _).mono ?_;rintro e w' ⟨rfl,rfl⟩)
     | (go_at_call 67;with_reducible refine (HQ.out _).mono ?_;rintro e w' ⟨rfl,rfl⟩)
     | (go_at_call 32;with_reducible refine (HC.out _).mono ?_;rintro e w' ⟨rfl,rfl⟩)
     | (go_at_call 32;with_reducible refine (HR.out _).mono ?_;rintro e w' ⟨rfl,rfl⟩))
    refine bodyPost_ret (v:=.tuple #[.agg #[.int .i64 0,.int .i64 0,.slice none 0 0],.bool false]) (by simp [results,Tryz.results51,go_sem,a0,a1,a2]) rfl (gives_none ?_)
    have B3:=B1.out
    repeat (first | (with_reducible exact B3) | (with_reducible refine up_set ?_ (by simp only;omega) _))
 ·obtain rfl:v2=false:=by simpa using hbad
  clear hbad
  have HW:=Lib.hid KW;have HX:=Lib.hid hx;have HHH:=Lib.hid hH
  clear KW hx hH
  obtain ⟨n,hn⟩:∃ n,(x :: t).length=n:=⟨_,rfl⟩
  have z0:((n:Int)==0)=false:=by simp;rw [←hn];simp
  have z7:decide ((7:Int)<(n:Int))=false:=by simp;rw [←hn];simp;omega
  have n0:0<n:=by rw [←hn];simp
  go_enter Tryz.func51,Tryz.ntmps51
  go_wp2_with fail
  refine (HW.out _).mono ?_
  rintro e w1 ⟨v,rfl,hv,hb⟩
  obtain ⟨a,c,rfl,hA⟩:=hv.arg
  obtain ⟨g,o,rfl,hc,hcap,hmax⟩:=hA.resolve_left (by simp)
  have c0:=hc 0 x rfl
  rw [HHH.out,Nat.add_zero] at c0
  rw [hn] at hcap ⊢
  have hTS:=fun i l (hi:t[i]?=some l)=>hc (i+1) l (by simpa using hi)
  have HTS:=Lib.hid hTS
  have hRB:=Bx.new w 26 [.int .i64 0,.int .i64 0,.slice none 0 0]
  have A1:=(hRB.up hb).alloc (.cells #[.int .i64 0,.int .i64 0,.slice none 0 0] 26)
  have A9:=Lib.hid (hRB.up hb)
  have hbw:=up_trans (up_alloc (Below.refl _ w) _) hb
  have B9:=Lib.hid hbw
  have B1:=Lib.hid (up_alloc hbw (.cells #[.int .i64 0,.int .i64 0,.slice none 0 0] 26))
  have c1:=bl_cell (up_alloc (Below.refl _ w1) (.cells #[.int .i64 0,.int .i64 0,.slice none 0 0] 26)) c0
  have a0:=A1.cell 0 rfl;have a1:=A1.cell 1 rfl;have a2:=A1.cell 2 rfl;have af:=A1.free
  have N0:=Lib.hid hn
  clear hv hA hb A1 hc hn hTS hbw hRB
  go_wp2
  go_loopw [6] (fun i wr=>∃ k:Nat,k≤k0∧i=.int .i64 (k:Int)∧wr=w1.alloc (.cells #[.int .i64 0,.int .i64 0,.slice none 0 0] 26)) (fun i _=>k0-(intOf i).toNat)
  case atStart=>exact ⟨0,Nat.zero_le _,by go_num,rfl⟩
  case round =>
   obtain ⟨k,hk,rfl,rfl⟩:=hrel
   by_cases hlt:k<k0
   ·have hzk:=HX.out.1
    have hxk:=HX.out.2 k (by omega) hlt
    obtain ⟨q,hq⟩:∃ q:Int,((H[k].toNat:Nat):Int)=q:=⟨_,rfl⟩
    rw [hq] at hxk
    have z1:(k:Int)<(H.size:Int):=by omega
    go_wp2
    go_roundw
    case rel=>exact ⟨k+1,by omega,by go_num,by trivial⟩
    case measure=>simp [intOf];omega
   ·obtain rfl:k=k0:=by omega
    go_wp2_with (first
     | (go_at_call 67;with_reducible refine (HP.out _).mono ?_;rintro e w' ⟨rfl,rfl⟩)
     | (go_at_call 67;with_reducible refine (HQ.out _).mono ?_;rintro e w' ⟨rfl,rfl⟩)
     | (go_at_call 32;with_reducible refine (HC.out _).mono ?_;rintro e w' ⟨rfl,rfl⟩)
     | (go_at_call 32;with_reducible refine (HR.out _).mono ?_;rintro e w' ⟨rfl,rfl⟩))
    refine bodyPost_ret (v:=.tuple #[.agg #[.int .i64 0,.int .i64 0,.slice none 0 0],.bool false]) (by simp [results,Tryz.results51,go_sem,a0,a1,a2]) rfl (gives_none ?_)
    have B3:=B1.out
    repeat (first | (with_reducible exact B3) | (with_reducible refine up_set ?_ (by simp only;omega) _))
def PlainRel (ts:List (List UInt8)) (m:Nat) (c r:Int) (F:Option (List Sp)) (R B base:Nat) (w w1:World) (i:Value) (wr:World):Prop :=
 ∃ (k:Nat) (l:List Sp) (v:Value),k≤m∧i=.int .i64 ((k:Int)+1)∧l.length=k∧Bx wr B [.int .i64 c,.int .i64 r,v]∧rowP wr base v l∧Bx wr R [.int .i64 0,.int .i64 0,.slice none 0 0]∧base≤wr.heap.size∧Below w.heap.size w wr∧Below w1.heap.size w1 wr∧Hid ((stepsM (ts.drop k)).map (fun q=>l++q)=F)
set_option maxRecDepth 100000 in
set_option maxHeartbeats 4000000 in
theorem refPlain_good (X H:ByteArray) (x:List UInt8) (t:List (List UInt8)) (w:World) (hn7:t.length≤6) (hH:tx x=H) (k0:Nat) (hk0:k0<H.size) (h120:((H[k0].toNat:Nat):Int)=120) (hx:FirstX H k0) (hz:H.size≤1000000) (P Q:ByteArray) (hP:H.extract 0 k0=P) (hQ:∀ w,(Instr.slice 9 (.string H) (some (.int .i64 ((k0:Int)+1))) none none).run Tryz.prog w=.ok (.string Q) w) (c r:Int) (F:Option (List Sp)) (hF:stepsM t=F) (hsz:∀ y∈t,y.length≤1000000)
  (KP:∀ w,Calls Tryz.prog 67 #[.string P] w fun e w'=>e=.returned (.tuple #[.int .i64 c,.bool true])∧w=w')
  (KQ:∀ w,Calls Tryz.prog 67 #[.string Q] w fun e w'=>e=.returned (.tuple #[.int .i64 r,.bool true])∧w=w')
  (KC:∀ w,Calls Tryz.prog 32 #[.int .i64 c,.int .i64 1,.int .i64 64] w fun e w'=>e=.returned (.bool true)∧w'=w)
  (KR:∀ w,Calls Tryz.prog 32 #[.int .i64 r,.int .i64 1,.int .i64 64] w fun e w'=>e=.returned (.bool true)∧w'=w)
  (KW:∀ w,Calls Tryz.prog 66 #[.string X] w fun e w'=>∃ v,e=.returned v∧TxS w' v (x :: t)∧Below w.heap.size w w') :
  Calls Tryz.prog 51 #[.string X] w (GivesS (F.map fun l=>⟨c,r,l⟩) w):=by
 have HP:=Lib.hid KP;have HQ:=Lib.hid KQ;have HC:=Lib.hid KC;have HR:=Lib.hid KR;have HF:=Lib.hid hF;have HZ:=Lib.hid hsz
 clear KP KQ KC KR hF hsz
 have z1:(k0:Int)<(H.size:Int):=by omega
 have HW:=Lib.hid KW;have HX:=Lib.hid hx;have HHH:=Lib.hid hH
 clear KW hx hH
 obtain ⟨n,hn⟩:∃ n,(x :: t).length=n:=⟨_,rfl⟩
 have z0:((n:Int)==0)=false:=by simp;rw [←hn];simp
 have z7:decide ((7:Int)<(n:Int))=false:=by simp;rw [←hn];simp;omega
 have n0:0<n:=by rw [←hn];simp
 go_enter Tryz.func51,Tryz.ntmps51
 go_wp2_with fail
 refine (HW.out _).mono ?_
 rintro e w1 ⟨v,rfl,hv,hb⟩
 obtain ⟨a,c9,rfl,hA⟩:=hv.arg
 obtain ⟨g,o,rfl,hc,hcap,hmax⟩:=hA.resolve_left (by simp)
 have c0:=hc 0 x rfl
 rw [HHH.out,Nat.add_zero] at c0
 rw [hn] at hcap ⊢
 have hTS:=fun i l (hi:t[i]?=some l)=>hc (i+1) l (by simpa using hi)
 have HTS:=Lib.hid hTS
 have hRB:=Bx.new w 26 [.int .i64 0,.int .i64 0,.slice none 0 0]
 have A1:=(hRB.up hb).alloc (.cells #[.int .i64 0,.int .i64 0,.slice none 0 0] 26)
 have A9:=Lib.hid (hRB.up hb)
 have hbw:=up_trans (up_alloc (Below.refl _ w) _) hb
 have B9:=Lib.hid hbw
 have B1:=Lib.hid (up_alloc hbw (.cells #[.int .i64 0,.int .i64 0,.slice none 0 0] 26))
 have c1:=bl_cell (up_alloc (Below.refl _ w1) (.cells #[.int .i64 0,.int .i64 0,.slice none 0 0] 26)) c0
 have a0:=A1.cell 0 rfl;have a1:=A1.cell 1 rfl;have a2:=A1.cell 2 rfl;have af:=A1.free
 have N0:=Lib.hid hn
 clear hv hA hb A1 hc hn hTS hbw hRB
 go_wp2
 go_loopw [6] (fun i wr=>∃ k:Nat,k≤k0∧i=.int .i64 (k:Int)∧wr=w1.alloc (.cells #[.int .i64 0,.int .i64 0,.slice none 0 0] 26)) (fun i _=>k0-(intOf i).toNat)
 case atStart=>exact ⟨0,Nat.zero_le _,by go_num,rfl⟩
 case round =>
  obtain ⟨k,hk,rfl,rfl⟩:=hrel
  by_cases hlt:k<k0
  ·have hzk:=HX.out.1
   have hxk:=HX.out.2 k (by omega) hlt
   obtain ⟨q,hq⟩:∃ q:Int,((H[k].toNat:Nat):Int)=q:=⟨_,rfl⟩
   rw [hq] at hxk
   have z1:(k:Int)<(H.size:Int):=by omega
   go_wp2
   go_roundw
   case rel=>exact ⟨k+1,by omega,by go_num,by trivial⟩
   case measure=>simp [intOf];omega
  ·obtain rfl:k=k0:=by omega
   go_wp2_with (first
    | (go_at_call 67;with_reducible refine (HP.out _).mono ?_;rintro e w' ⟨rfl,rfl⟩)
    | (go_at_call 67;with_reducible refine (HQ.out _).mono ?_;rintro e w' ⟨rfl,rfl⟩)
    | (go_at_call 32;with_reducible refine (HC.out _).mono ?_;rintro e w' ⟨rfl,rfl⟩)
    | (go_at_call 32;with_reducible refine (HR.out _).mono ?_;rintro e w' ⟨rfl,rfl⟩))
   clear c1 a0 a1 a2 af c0
   have AR:=A9.out.alloc (.cells #[.int .i64 c,.int .i64 r,.slice none 0 0] 26)
   have AB:=Bx.new w1 26 [.int .i64 c,.int .i64 r,.slice none 0 0]
   have HB4:=Lib.hid (up_alloc B9.out (.cells #[.int .i64 c,.int .i64 r,.slice none 0 0] 26))
   have HB1:=Lib.hid (up_alloc (Below.refl _ w1) (.cells #[.int .i64 c,.int .i64 r,.slice none 0 0] 26))
   have hs4:(w1.alloc (.cells #[.int .i64 c,.int .i64 r,.slice none 0 0] 26)).heap.size=w1.heap.size+1:=by simp
   have hlt1:w.heap.size<w1.heap.size:=A9.out.lt
   obtain ⟨m,hm⟩:∃ m,t.length=m:=⟨_,rfl⟩
   obtain rfl:n=m+1:=by have:=N0.out;simp at this;omega
   have HM:=Lib.hid hm;have HAR:=Lib.hid AR;have HAB:=Lib.hid AB;have HS4:=Lib.hid hs4
   clear AR AB hs4 z0 z7 n0
   generalize hw4:(w1.alloc (.cells #[.int .i64 c,.int .i64 r,.slice none 0 0] 26))=w4 at *
   clear hw4
   go_loopw [11] (fun i wr=>PlainRel t m c r F w.heap.size w1.heap.size (w1.heap.size+1) w w1 i wr) (fun i _=>m+1-(intOf i).toNat)
   case atStart=>exact ⟨0,[],_,by omega,by go_num,rfl,HAB.out,rowP_nil _ _,HAR.out,by rw [HS4.out];omega,HB4.out,HB1.out,Lib.hid (by rw [←HF.out];simp)⟩
   case round =>
    obtain ⟨k,l,v,hk,rfl,hlk,AB,hrow,AR,hbase,hb,hb1,HMk⟩:=hrel
    by_cases hlt2:k<m
    ·obtain ⟨y,hy⟩:∃ y,t[k]?=some y:=⟨t[k]'(by rw [HM.out];exact hlt2),List.getElem?_eq_getElem _⟩
     have hcx:=bl_cell hb1 (HTS.out k y hy)
     have hzx:=HZ.out y (List.mem_of_getElem? hy)
     have hd:=drop_one hy
     have KS:=fun w=>refStepGet_any (tx y) w (by rw [tx_size];omega)
     rw [data_tx] at KS
     have z0:(0:Int)≤(k:Int)+1:=by omega
     have z2:(k:Int)+1<(m:Int)+1:=by omega
     obtain ⟨av,cv,rfl,-⟩:=hrow.steps
     have HRw:=Lib.hid hrow;have HBB:=Lib.hid hb;have HB1k:=Lib.hid hb1;have HABk:=Lib.hid AB;have HARk:=Lib.hid AR;have HLK:=Lib.hid hlk
     clear hrow hb hb1 AB AR hlk
     cases hs:(getS y).2
     ·have E:=Lib.hid (show F=none by rw [←HMk.out,hd];exact steps_no hs)
      rw [hs] at KS
      generalize (getS y).1=p at *
      obtain ⟨pd,pn,pu⟩:=p
      generalize tx y=T at *
      simp only at KS
      have HS:=Lib.hid KS
      clear KS hs hd HMk hzx
      go_wp2_with fail
      refine (HS.out _).mono ?_
      rintro e w5 ⟨rfl,hb5⟩
      have A5:=(HARk.out.up hb5).alloc (.cells #[.int .i64 pd,.int .i64 pn,.bool pu] 58)
      have B5:=Lib.hid (up_alloc (up_trans HBB.out hb5) (.cells #[.int .i64 pd,.int .i64 pn,.bool pu] 58))
      have a0:=A5.cell 0 rfl;have a1:=A5.cell 1 rfl;have a2:=A5.cell 2 rfl;have af:=A5.free
      clear A5 hb5 hcx
      go_wp2
      refine bodyPost_ret (v:=.tuple #[.agg #[.int .i64 0,.int .i64 0,.slice none 0 0],.bool false]) (by simp [results,Tryz.results51,go_sem,a0,a1,a2]) rfl ?_
      rw [E.out]
      refine gives_none ?_
      have B6:=B5.out
      repeat (first | (with_reducible exact B6) | (with_reducible refine up_set ?_ (by simp only;omega) _))
     ·have E:=Lib.hid (show (stepsM (t.drop (k+1))).map (fun q=>(l++[(getS y).1])++q)=F by rw [←HMk.out,hd];exact (steps_yes hs).symm)
      rw [hs] at KS
      generalize (getS y).1=p at *
      obtain ⟨pd,pn,pu⟩:=p
      generalize tx y=T at *
      simp only at KS
      have HS:=Lib.hid KS
      clear KS hs hd HMk hzx
      go_wp2_with fail
      refine (HS.out _).mono ?_
      rintro e w5 ⟨rfl,hb5⟩
      have A5:=(HABk.out.up hb5).alloc (.cells #[.int .i64 pd,.int .i64 pn,.bool pu] 58)
      have R5:=(HARk.out.up hb5).alloc (.cells #[.int .i64 pd,.int .i64 pn,.bool pu] 58)
      have B5:=Lib.hid (up_alloc (up_trans HBB.out hb5) (.cells #[.int .i64 pd,.int .i64 pn,.bool pu] 58))
      have C5:=Lib.hid (up_alloc (up_trans HB1k.out hb5) (.cells #[.int .i64 pd,.int .i64 pn,.bool pu] 58))
      have P5:=Lib.hid ((HRw.out.up hb5).up (up_alloc (Below.refl _ _) (.cells #[.int .i64 pd,.int .i64 pn,.bool pu] 58)))
      have S5:w1.heap.size+1≤(w5.alloc (.cells #[.int .i64 pd,.int .i64 pn,.bool pu] 58)).heap.size:=by have:=hb5.size;simp;omega
      have a2:=A5.cell 2 rfl
      have HA5:=Lib.hid A5;have HR5:=Lib.hid R5;have HS5:=Lib.hid S5
      clear hb5 hcx A5 R5 S5
      go_wp2_with (at_builtin;refine wpList_append_step rfl _ _ rfl (w1.heap.size+1) (.slice av l.length cv) l rfl P5.out HS5.out pd pn pu _ (World.size_alloc _ _) rfl ?c1 ?_)
      case c1=>rw [HLK.out];omega
      intro g6 cap6 w6 hrow6 hb6
      have A6:=HA5.out.low (Nat.lt_succ_self _) hb6
      have R6:=HR5.out.low (by omega) hb6
      have a2':=A6.cell 2 rfl;have af:=A6.free
      have HA6:=Lib.hid A6;have HR6:=Lib.hid R6;have HB6:=Lib.hid hb6;have HW6:=Lib.hid hrow6
      clear A6 R6 hb6 hrow6 a2
      go_wp2
      go_roundw
      case rel =>
       repeat (apply Exists.intro)
       refine ⟨?_,rfl⟩
       refine ⟨k+1,l++[⟨pd,pn,pu⟩],_,by omega,by go_num,by simp [HLK.out],HA6.out.set 2 _,HW6.out.set (by simp only;omega) _,HR6.out.far (by simp only;omega) _,?_,?_,?_,E⟩
       ·have:=HB6.out.size;have:=HS5.out;simp [World.setCell];omega
       ·exact up_set (B5.out.trans (HB6.out.mono (by omega))) (by simp only;omega) _
       ·exact up_set (C5.out.trans (HB6.out.mono (by omega))) (by simp only;omega) _
      case measure=>simp [intOf];omega
    ·obtain rfl:k=m:=by omega
     have E:=Lib.hid (show F=some l by rw [←HMk.out,List.drop_of_length_le (by rw [HM.out];omega)];simp [stepsM])
     obtain ⟨av,cv,rfl,-⟩:=hrow.steps
     subst hlk
     have HRw:=Lib.hid hrow;have HBB:=Lib.hid hb
     have b0:=AB.cell 0 rfl;have b1:=AB.cell 1 rfl;have b2:=AB.cell 2 rfl
     have a0:=AR.cell 0 rfl;have a1:=AR.cell 1 rfl;have a2:=AR.cell 2 rfl;have af:=AR.free
     clear hrow AB AR hb hb1
     go_wp2
     rw [E.out]
     refine bodyPost_ret (v:=.tuple #[.agg #[.int .i64 c,.int .i64 r,.slice av l.length cv],.bool true]) (by simp [results,Tryz.results51,go_sem,a0,a1,a2]) rfl ⟨av,cv,rfl,?_,?_⟩
     ·have HR6:=HRw.out
      show InF _ _ av l
      refine InF.mono (base:=w1.heap.size+1) (rowP.inF (n:=l.length) (c:=cv) ?_) (by omega)
      repeat (first | (with_reducible exact HR6) | (with_reducible refine rowP.set ?_ (by simp only;omega) _))
     ·have B6:=HBB.out
      repeat (first | (with_reducible exact B6) | (with_reducible refine up_set ?_ (by simp only;omega) _))
theorem cutX_split (x:List UInt8):((120:UInt8)∉x∧cutX x=(x,[]))∨∃ a b,x=a++120 :: b∧(120:UInt8)∉a∧cutX x=(a,b):=by
 induction x with
 | nil=>left;exact ⟨by simp,rfl⟩
 | cons c r ih =>
  by_cases e:c=120
  ·subst e;right;exact ⟨[],r,rfl,by simp,by simp [cutX]⟩
  ·have e2:¬ (120:UInt8)=c:=fun h=>e h.symm
   rcases ih with ⟨h1,h2⟩ | ⟨a,b,rfl,h1,h2⟩
   ·left
    exact ⟨by simp [e2,h1],by rw [cutX,if_neg e,h2]⟩
   ·right
    exact ⟨c :: a,b,rfl,by simp [e2,h1],by rw [cutX,if_neg e,h2]⟩
theorem tx_at (x:List UInt8) (k:Nat) (h:k<(tx x).size):(tx x)[k]=x[k]'(by rw [tx_size] at h;exact h):=rfl
theorem oct_ne {c:UInt8} (h:c≠120):(((c.toNat:Nat):Int) != 120)=true:=by
 have e:=oct_eq c 120
 rw [show (((120:UInt8).toNat:Nat):Int)=120 from rfl] at e
 unfold bne
 rw [e]
 simpa using h
theorem firstX_all {x:List UInt8} (h:(120:UInt8)∉x):FirstX (tx x) (tx x).size:=⟨Nat.le_refl _,fun k hk _=>by
 rw [tx_at]
 exact oct_ne fun e=>h (e ▸ List.getElem_mem _)⟩
theorem firstX_at {a:List UInt8} (b:List UInt8) (h:(120:UInt8)∉a):FirstX (tx (a++120 :: b)) a.length:=⟨by rw [tx_size];simp,fun k hk h2=>by
 rw [tx_at,List.getElem_append_left h2]
 exact oct_ne fun e=>h (e ▸ List.getElem_mem _)⟩
theorem slice_from (H:ByteArray) (k:Nat) (h:k<H.size) (w:World):(Instr.slice 9 (.string H) (some (.int .i64 ((k:Int)+1))) none none).run Tryz.prog w=.ok (.string (H.extract (k+1) H.size)) w:=by
 rw [run_slice_string_from_if w 9 H .i64 _ Tryz.underlying9,if_pos (by omega)]
 simp
theorem inOf_of {l:List UInt8}:(inOf l 1 64).2=((numOf l).2&&inB (numOf l).1 1 64)∧((inOf l 1 64).2=true→(inOf l 1 64).1=(numOf l).1):=by
 unfold inOf inB
 split
 ·rename_i h
  exact ⟨by simp [h],fun _=>rfl⟩
 ·rename_i h
  refine ⟨?_,fun e=>by cases e⟩
  cases h2:(numOf l).2
  ·rfl
  ·simp only [Bool.true_and]
   rw [eq_comm,Bool.and_eq_false_iff,decide_eq_false_iff_not,decide_eq_false_iff_not]
   by_cases h3:1≤(numOf l).1
   ·right;intro h4;exact h ⟨h2,h3,h4⟩
   ·exact .inl h3
theorem refPlain_any (X:ByteArray) (w:World) (hs:X.size≤999999):Calls Tryz.prog 51 #[.string X] w (GivesS (plainM X.data.toList) w):=by
 have KW:=fun w=>refWords_any X w hs
 have hz:∀ p∈(fieldsL X.data.toList).getD [],p.length≤999999:=by
  cases hf:fieldsL X.data.toList with
  | none=>intro p hp;cases hp
  | some l =>
   intro p hp
   have h1:=fieldsL_octets hf
   rw [size_data] at h1
   have h2:p.length≤l.flatten.length:=(List.Sublist.length_le (List.sublist_flatten_of_mem hp))
   omega
 have hl:((fieldsL X.data.toList).getD []).length≤1000000:=by
  cases hf:fieldsL X.data.toList with
  | none=>simp
  | some l =>
   have h1:=fieldsL_length hf
   rw [size_data] at h1
   simp;omega
 unfold plainM
 generalize (fieldsL X.data.toList).getD []=ls at *
 cases ls with
 | nil=>exact refPlain_len X [] w (.inl rfl) (by simp) KW
 | cons x t =>
  by_cases h6:t.length≤6
  ·have hxz:(tx x).size≤1000000:=by have:=hz x (by simp);rw [tx_size];omega
   rcases cutX_split x with ⟨hx,hcx⟩ | ⟨a,b,rfl,ha,hcx⟩
   ·have e:readM (x :: t)=none:=by
     simp only [readM]
     rw [if_neg]
     rintro ⟨-,-,h⟩
     rw [hcx] at h
     have:=(inOf_true h).1
     have h2:=(inOf_true h).2
     exact itoa_some _ (by omega) this
    rw [e]
    exact refPlain_nox X (tx x) x t w h6 rfl (firstX_all hx) hxz KW
   ·have hk0:a.length<(tx (a++120 :: b)).size:=by rw [tx_size];simp
    have h120:(((tx (a++120 :: b))[a.length].toNat:Nat):Int)=120:=by
     rw [tx_at,List.getElem_append_right (Nat.le_refl _)]
     simp
    have hP:(tx (a++120 :: b)).extract 0 a.length=tx a:=by rw [tx_extract,data_tx];simp
    have hQ:(tx (a++120 :: b)).extract (a.length+1) (tx (a++120 :: b)).size=tx b:=by
     rw [tx_extract,data_tx,tx_size,List.take_of_length_le (Nat.le_refl _)]
     simp
    have hQ2:=fun w=>slice_from (tx (a++120 :: b)) a.length hk0 w
    rw [hQ] at hQ2
    rw [tx_size] at hxz
    simp only [List.length_append,List.length_cons] at hxz
    have KP:=fun w=>refGet_any (tx a) w (by rw [tx_size];omega)
    have KQ:=fun w=>refGet_any (tx b) w (by rw [tx_size];omega)
    rw [data_tx] at KP KQ
    have KC:=fun w=>refIn_any (numOf a).1 1 64 w
    have KR:=fun w=>refIn_any (numOf b).1 1 64 w
    have ia:=@inOf_of a
    have ib:=@inOf_of b
    by_cases hin:(inOf a 1 64).2=true∧(inOf b 1 64).2=true
    ·have e:readM ((a++120 :: b) :: t)=(stepsM t).map fun l=>⟨(numOf a).1,(numOf b).1,l⟩:=by
      simp only [readM]
      rw [hcx,if_pos ⟨h6,hin⟩,ia.2 hin.1,ib.2 hin.2]
     rw [e]
     have ja:=ia.1.symm.trans hin.1
     have jb:=ib.1.symm.trans hin.2
     rw [Bool.and_eq_true] at ja jb
     rw [ja.1] at KP
     rw [jb.1] at KQ
     rw [ja.2] at KC
     rw [jb.2] at KR
     exact refPlain_good X _ _ t w h6 rfl a.length hk0 h120 (firstX_at b ha) (by rw [tx_size];simp;omega) (tx a) (tx b) hP hQ2 _ _ _ rfl (fun y hy=>by have:=hz y (by simp [hy]);omega) KP KQ KC KR KW
    ·have e:readM ((a++120 :: b) :: t)=none:=by
      simp only [readM]
      rw [hcx,if_neg fun h=>hin h.2]
     rw [e]
     refine refPlain_sides X _ _ t w h6 rfl a.length hk0 h120 (firstX_at b ha) (by rw [tx_size];simp;omega) (tx a) (tx b) hP hQ2 _ _ _ _ _ _ ?_ KP KQ KC KR KW
     rw [ia.1,ib.1,Bool.and_eq_true,Bool.and_eq_true] at hin
     cases h1:(numOf a).2
     ·exact .inl rfl
     right
     cases h2:(numOf b).2
     ·exact .inl rfl
     right
     cases h3:inB (numOf a).1 1 64
     ·exact .inl rfl
     right
     cases h4:inB (numOf b).1 1 64
     ·rfl
     ·exact absurd ⟨⟨h1,h3⟩,h2,h4⟩ hin
  ·have e:readM (x :: t)=none:=by simp only [readM];rw [if_neg fun h=>h6 h.1]
   rw [e]
   exact refPlain_len X (x :: t) w (.inr (by simp;omega)) (by omega) KW
end Go.Proofs.YtbbjileignefbaaGreatDoor
namespace Go.Proofs.YtbbjileignefbaaGreatDoor
open Go.RowKit
theorem gives_some {w w':World} {a:Option Addr} {cap:Nat} {s:Sc} (h:InF w.heap.size w' a s.l) (hb:Below w.heap.size w w'):GivesS (some s) w (.returned (.tuple #[.agg #[.int .i64 s.c,.int .i64 s.r,.slice a s.l.length cap],.bool true])) w':=⟨a,cap,rfl,h,hb⟩
end Go.Proofs.YtbbjileignefbaaGreatDoor
namespace Go.Proofs.YtbbjileignefbaaGreatDoor
open Go.RowKit DecMath
theorem cat_plainM:∀ e∈catS,plainM (joinM (partsC e.2))=some e.2:=by
 intro e he
 unfold plainM
 rw [←cat_parts e he,fields_parts e.2 (cat_told e he)]
 exact read_parts e.2 (cat_told e he)
theorem names_at {k:Nat} {e:List UInt8×Sc} (h:catS[k]?=some e):namesL[k]?=some e.1∧plansL[k]?=some (joinM (partsC e.2)):=by
 unfold namesL plansL
 rw [List.getElem?_map,List.getElem?_map,h]
 exact ⟨rfl,rfl⟩
theorem catS_length:catS.length=21:=rfl
set_option maxRecDepth 100000 in
set_option maxHeartbeats 2000000 in
theorem refFind_any (nm:List UInt8) (w:World):Calls Tryz.prog 33 #[.string (tx nm)] w (GivesS (findM nm) w):=by
 obtain ⟨N,hN⟩:∃ N,tx nm=N:=⟨_,rfl⟩
 have HN:=Lib.hid hN
 rw [hN]
 clear hN
 go_enter Tryz.func33,Tryz.ntmps33
 go_wp2_with fail
 refine (refNames_any _).mono ?_
 rintro e w1 ⟨v,rfl,hT,hb⟩
 obtain ⟨a,c,rfl,hA⟩:=hT.arg
 obtain ⟨g,o,rfl,hc,-,-⟩:=hA.resolve_left (by decide)
 have A1:=(Bx.new w 26 [.int .i64 0,.int .i64 0,.slice none 0 0]).up hb
 have B1:=Lib.hid (up_trans (up_alloc (Below.refl _ w) _) hb)
 have HA1:=Lib.hid A1;have HC:=Lib.hid hc
 have hl:namesL.length=21:=rfl
 rw [hl]
 clear hT hA hb A1 hc
 go_wp2
 go_loopw [5] (fun i wr=>∃ k:Nat,k≤21∧i=.int .i64 (k:Int)∧Hid (∀ e∈catS.take k,e.1≠nm)∧∃ u:Later w1,wr=u.now) (fun i _=>21-(intOf i).toNat)
 case atStart=>exact ⟨0,by omega,by go_num,Lib.hid (by simp),⟨w1,Below.refl _ _⟩,rfl⟩
 case round =>
  obtain ⟨k,hk,rfl,HNE,u,rfl⟩:=hrel
  have A2:=HA1.out.up u.up
  by_cases hlt:k<21
  ·obtain ⟨e,he⟩:∃ e,catS[k]?=some e:=⟨catS[k]'(by rw [catS_length];exact hlt),List.getElem?_eq_getElem _⟩
   have hcx:=u.cell (HC.out k e.1 (names_at he).1)
   have hmem:=List.mem_of_getElem? he
   have z0:(0:Int)≤(k:Int):=by omega
   have z1:(k:Int)<21:=by omega
   have hs:=tx_same e.1 nm
   rw [HN.out] at hs
   by_cases hx:e.1=nm
   ·rw [decide_eq_true hx] at hs
    have E:=Lib.hid (show findM nm=some e.2 by rw [←hx];exact (find_of_mem hmem).1)
    have KP:=refPlain_any (tx (joinM (partsC e.2)))
    rw [data_tx,cat_plainM e hmem] at KP
    have hz:=(cat_short e hmem).2.1
    have HP:=Lib.hid fun w=>KP w (by rw [tx_size];omega)
    have hpl:=Lib.hid (names_at he).2
    obtain ⟨T,hT0⟩:∃ T,tx (joinM (partsC e.2))=T:=⟨_,rfl⟩
    have HT0:=Lib.hid hT0
    rw [hT0] at HP
    obtain ⟨s,hs0⟩:∃ s,e.2=s:=⟨_,rfl⟩
    rw [hs0] at HP E
    generalize tx e.1=Q at *
    clear KP hz hx hmem HNE hT0 hs0
    go_wp2_with fail
    refine (refPlans_any _).mono ?_
    rintro e2 w2 ⟨v2,rfl,hT,hb⟩
    obtain ⟨a,c2,rfl,hA⟩:=hT.arg
    obtain ⟨g2,o2,rfl,hc2,-,-⟩:=hA.resolve_left (by decide +kernel)
    have hcp:=hc2 k _ hpl.out
    rw [HT0.out] at hcp
    have hl2:plansL.length=21:=rfl
    rw [hl2]
    have A3:=A2.up hb
    have B3:=Lib.hid (up_trans (up_trans B1.out u.up) hb)
    clear hT hA hc2 hb A2 hcx
    go_wp2_with fail
    refine (HP.out _).mono ?_
    rintro e3 w3 ⟨a3,c3,rfl,hF,hb⟩
    have hF':InF (w.heap.size+1) w3 a3 s.l:=InF.mono hF A3.lt
    have A4:=A3.up hb
    have a0:=A4.cell 0 rfl;have a1:=A4.cell 1 rfl;have a2:=A4.cell 2 rfl;have af:=A4.free
    have HF:=Lib.hid hF'
    have B4:=Lib.hid (up_trans B3.out hb)
    clear hF hF' hb A3 A4 hcp
    go_wp2
    rw [E.out]
    refine bodyPost_ret (v:=.tuple #[.agg #[.int .i64 s.c,.int .i64 s.r,.slice a3 s.l.length c3],.bool true]) (by simp [results,Tryz.results33,go_sem,a0,a1,a2]) rfl (gives_some ?_ ?_)
    ·have HR2:=HF.out
     refine InF.mono (base:=w.heap.size+1) ?_ (by omega)
     repeat (first | (with_reducible exact HR2) | (with_reducible refine InF.set ?_ (by simp only;omega) _))
    ·have B5:=B4.out
     repeat (first | (with_reducible exact B5) | (with_reducible refine up_set ?_ (by simp only;omega) _))
   ·rw [decide_eq_false hx] at hs
    have HX:=Lib.hid (show ∀ e∈catS.take (k+1),e.1≠nm by
     rw [take_snoc he]
     intro y hy
     rcases List.mem_append.1 hy with h | h
     ·exact HNE.out y h
     ·obtain rfl:=List.mem_singleton.1 h;exact hx)
    generalize tx e.1=Q at *
    clear hx hmem HNE A2 he
    go_wp2
    go_roundw
    case rel=>exact ⟨k+1,by omega,by go_num,HX,u,rfl⟩
    case measure=>simp [intOf];omega
  ·obtain rfl:k=21:=by omega
   have E:=Lib.hid (show findM nm=none from find_none fun e he=>by
    have:=HNE.out
    rw [List.take_of_length_le (by rw [catS_length];omega)] at this
    exact this e he)
   have a0:=A2.cell 0 rfl;have a1:=A2.cell 1 rfl;have a2:=A2.cell 2 rfl;have af:=A2.free
   have B2:=Lib.hid (up_trans B1.out u.up)
   clear A2 HNE
   go_wp2
   rw [E.out]
   refine bodyPost_ret (v:=.tuple #[.agg #[.int .i64 0,.int .i64 0,.slice none 0 0],.bool false]) (by simp [results,Tryz.results33,go_sem,a0,a1,a2]) rfl (gives_none ?_)
   have B3:=B2.out
   repeat (first | (with_reducible exact B3) | (with_reducible refine up_set ?_ (by simp only;omega) _))
end Go.Proofs.YtbbjileignefbaaGreatDoor
namespace Go.Proofs.YtbbjileignefbaaGreatDoor
open Go.RowKit
def TwoP (w1:World) (P Q:List Value) (s8 s9:Value) (wx:World):Prop:=∃ g h:Nat,s8=.pointer (some ⟨g,0,none⟩)∧s9=.pointer (some ⟨h,0,none⟩)∧w1.heap.size≤g∧w1.heap.size≤h∧g≠h∧Bx wx g P∧Bx wx h Q∧Below w1.heap.size w1 wx
theorem twoP_1 (w1:World) (t:TypeId) (p0 q0:Value) (P Q:List Value):TwoP w1 (p0 :: P) (q0 :: Q) (.pointer (some ⟨w1.heap.size,0,none⟩)) (.pointer (some ⟨w1.heap.size+1,0,none⟩)) ((w1.alloc (.cells (p0 :: P).toArray t)).alloc (.cells (q0 :: Q).toArray t)).drew:=by
 have H:=Bx.new (w1.alloc (.cells (p0 :: P).toArray t)) t (q0 :: Q)
 rw [World.size_alloc] at H
 exact ⟨_,_,rfl,rfl,Nat.le_refl _,by omega,by omega,((Bx.new w1 t (p0 :: P)).alloc _).drew,H.drew,up_drew (up_alloc (up_alloc (Below.refl _ _) _) _)⟩
theorem twoP_2 (w1:World) (t:TypeId) (p0 q0:Value) (P Q:List Value):TwoP w1 (p0 :: P) (q0 :: Q) (.pointer (some ⟨w1.heap.size+1,0,none⟩)) (.pointer (some ⟨w1.heap.size,0,none⟩)) ((w1.alloc (.cells (q0 :: Q).toArray t)).alloc (.cells (p0 :: P).toArray t)).drew:=by
 have H:=Bx.new (w1.alloc (.cells (q0 :: Q).toArray t)) t (p0 :: P)
 rw [World.size_alloc] at H
 exact ⟨_,_,rfl,rfl,by omega,Nat.le_refl _,by omega,H.drew,((Bx.new w1 t (q0 :: Q)).alloc _).drew,up_drew (up_alloc (up_alloc (Below.refl _ _) _) _)⟩
set_option maxHeartbeats 2000000 in
set_option maxRecDepth 100000 in
theorem refEdge_up (c r X Y px py qx qy pc pr qc qr V:Int) (fx fy gx gy t1 t2 t3 t4:Bool) (ad:Option Addr) (n cap a b m:Nat) (w:World) (hm:m≤64) (hc:1≤c∧c≤64) (ha:a<m) (hb:b<m) (hX:0≤X∧X≤64) (hY:0≤Y∧Y≤64) (hXY:¬ Y<X)
  (e1:X.tmod c=pc) (e2:X.tdiv c=pr) (e3:Y.tmod c=qc) (e4:Y.tdiv c=qr) (hpc:0≤pc∧pc≤64) (hpr:0≤pr∧pr≤64) (hqc:0≤qc∧qc≤64) (hqr:0≤qr∧qr≤64)
  (k1:(pr==qr)=t1) (k2:(qc==pc+1)=t2) (k3:(pc==qc)=t3) (k4:(qr==pr+1)=t4)
  (hV:V=if (t1&&t2)=true then (if fx=true then 1 else 2) else if (t3&&t4)=true then (if fy=true then 3 else 4) else 0)
  (KF:∀ w1,Below w.heap.size w w1→Calls Tryz.prog 63 #[.agg #[.int .i64 c,.int .i64 r,.slice ad n cap]] w1 fun e w'=>∃ g cp,e=.returned (.slice (some ⟨g,0,none⟩) m cp)∧(w'.cell? ⟨g,a*5,none⟩=some (.int .i64 X)∧w'.cell? ⟨g,a*5+1,none⟩=some (.int .i64 px)∧w'.cell? ⟨g,a*5+2,none⟩=some (.int .i64 py)∧w'.cell? ⟨g,a*5+3,none⟩=some (.bool fx)∧w'.cell? ⟨g,a*5+4,none⟩=some (.bool fy)) ∧
   (w'.cell? ⟨g,b*5,none⟩=some (.int .i64 Y)∧w'.cell? ⟨g,b*5+1,none⟩=some (.int .i64 qx)∧w'.cell? ⟨g,b*5+2,none⟩=some (.int .i64 qy)∧w'.cell? ⟨g,b*5+3,none⟩=some (.bool gx)∧w'.cell? ⟨g,b*5+4,none⟩=some (.bool gy))∧Below w1.heap.size w1 w') :
  Calls Tryz.prog 64 #[.agg #[.int .i64 c,.int .i64 r,.slice ad n cap],.int .i64 (a:Int),.int .i64 (b:Int)] w fun e w'=>e=.returned (.int .i64 V)∧Below w.heap.size w w':=by
 have HB0:=Lib.hid (up_alloc (Below.refl _ w) (.cells #[.int .i64 c,.int .i64 r,.slice ad n cap] 26))
 have HF:=Lib.hid KF
 clear KF
 have e1':X%c=pc:=by rw [←Int.tmod_eq_emod_of_nonneg (by omega)];exact e1
 have e2':X / c=pr:=by rw [←Int.tdiv_eq_ediv_of_nonneg (by omega)];exact e2
 have e3':Y%c=qc:=by rw [←Int.tmod_eq_emod_of_nonneg (by omega)];exact e3
 have e4':Y / c=qr:=by rw [←Int.tdiv_eq_ediv_of_nonneg (by omega)];exact e4
 have hc0:c≠0:=by omega
 have z0:(0:Int)≤(a:Int):=by omega
 have z1:(a:Int)<(m:Int):=by omega
 have z2:(0:Int)≤(b:Int):=by omega
 have z3:(b:Int)<(m:Int):=by omega
 have y0:decide ((a:Int)<0)=false:=by simp
 have y1:decide ((b:Int)<0)=false:=by simp
 have y2:decide ((m:Int)≤(a:Int))=false:=by simp;omega
 have y3:decide ((m:Int)≤(b:Int))=false:=by simp;omega
 have y2':decide (m≤a)=false:=by simp;omega
 have y3':decide (m≤b)=false:=by simp;omega
 have y4:decide (Y<X)=false:=by simp;omega
 go_enter Tryz.func64,Tryz.ntmps64
 go_wp2_with fail
 refine (HF.out _ HB0.out).mono ?_
 rintro e w1 ⟨g,cp,rfl,⟨p0,p1,p2,p3,p4⟩,⟨q0,q1,q2,q3,q4⟩,hb1⟩
 have A:=(Bx.new w 26 [.int .i64 c,.int .i64 r,.slice ad n cap]).up hb1
 have B1:=Lib.hid (up_trans HB0.out hb1)
 have KS:∀ w':World,Below w1.heap.size w1 w'→w'.cell? ⟨g,a*5,none⟩=some (.int .i64 X)∧w'.cell? ⟨g,a*5+1,none⟩=some (.int .i64 px)∧w'.cell? ⟨g,a*5+2,none⟩=some (.int .i64 py)∧w'.cell? ⟨g,a*5+3,none⟩=some (.bool fx)∧w'.cell? ⟨g,a*5+4,none⟩=some (.bool fy)∧w'.cell? ⟨g,b*5,none⟩=some (.int .i64 Y)∧w'.cell? ⟨g,b*5+1,none⟩=some (.int .i64 qx)∧w'.cell? ⟨g,b*5+2,none⟩=some (.int .i64 qy)∧w'.cell? ⟨g,b*5+3,none⟩=some (.bool gx)∧w'.cell? ⟨g,b*5+4,none⟩=some (.bool gy):=fun w' h =>
  ⟨bl_cell h p0,bl_cell h p1,bl_cell h p2,bl_cell h p3,bl_cell h p4,bl_cell h q0,bl_cell h q1,bl_cell h q2,bl_cell h q3,bl_cell h q4⟩
 have HS:=Lib.hid KS
 have HA:=Lib.hid A
 have E:=Lib.hid (And.intro e1 (And.intro e2 (And.intro e3 (And.intro e4 (And.intro e1' (And.intro e2' (And.intro e3' e4')))))))
 have KK:=Lib.hid (And.intro k1 (And.intro k2 (And.intro k3 k4)))
 clear hb1 p0 p1 p2 p3 p4 q0 q1 q2 q3 q4 KS A e1 e2 e3 e4 e1' e2' e3' e4' k1 k2 k3 k4
 go_wp2_with fail
 go_cut [8,9] (fun s8 s9 wx=>TwoP w1 [.int .i64 X,.int .i64 px,.int .i64 py,.bool fx,.bool fy] [.int .i64 Y,.int .i64 qx,.int .i64 qy,.bool gx,.bool gy] s8 s9 wx)
 case first =>
  go_region_held3 (fun w'=>w'.cell? ⟨g,a*5,none⟩=some (.int .i64 X)∧w'.cell? ⟨g,a*5+1,none⟩=some (.int .i64 px)∧w'.cell? ⟨g,a*5+2,none⟩=some (.int .i64 py)∧w'.cell? ⟨g,a*5+3,none⟩=some (.bool fx)∧w'.cell? ⟨g,a*5+4,none⟩=some (.bool fy)∧w'.cell? ⟨g,b*5,none⟩=some (.int .i64 Y)∧w'.cell? ⟨g,b*5+1,none⟩=some (.int .i64 qx)∧w'.cell? ⟨g,b*5+2,none⟩=some (.int .i64 qy)∧w'.cell? ⟨g,b*5+3,none⟩=some (.bool gx)∧w'.cell? ⟨g,b*5+4,none⟩=some (.bool gy))
   ((refine HS.out _ ?_;repeat (first | (with_reducible exact Below.refl _ _) | (with_reducible apply up_drew) | (with_reducible apply up_alloc) | (with_reducible refine up_set ?_ (by simp<;>omega) _))))
   (fail)
  all_goals
   rename_i hHeld
   clear hHeld
   go_wp2_with fail
   go_meet
   first
    | exact twoP_1 w1 108 _ _ _ _
    | exact twoP_2 w1 108 _ _ _ _
 case rest =>
  obtain ⟨g',h',rfl,rfl,lg,lh,ne,G,H,hb⟩:=hcut
  have ne':h'≠g':=fun e=>ne e.symm
  have A2:=HA.out.up hb
  have B2:=Lib.hid (up_trans B1.out hb)
  have gA:=G.cell 0 rfl
  have hA:=H.cell 0 rfl
  clear hb gA hA lg lh
  have gA:=G.cell 0 rfl;have gB:=G.cell 3 rfl;have gC:=G.cell 4 rfl
  have hA:=H.cell 0 rfl
  have A4:=A2;have B4:=B2;have G4:=G;have H4:=H
  clear A2 B2 G H
  generalize wc=w4 at *
  go_wp2_with fail
  clear gA gB gC hA
  obtain ⟨e1,e2,e3,e4,e1',e2',e3',e4'⟩:=E.out
  obtain ⟨k1,k2,k3,k4⟩:=KK.out
  have a0:=fun u:Later w4=>u.cell (A4.cell 0 rfl)
  have g0:=fun u:Later w4=>u.cell (G4.cell 0 rfl);have g3:=fun u:Later w4=>u.cell (G4.cell 3 rfl);have g4:=fun u:Later w4=>u.cell (G4.cell 4 rfl)
  have h0:=fun u:Later w4=>u.cell (H4.cell 0 rfl)
  clear A4 G4 H4
  go_wp2_with fail
  refine later_start (w:=w4) ?_
  intro u
  refine wp_region_later (by kernel_rfl) (by kernel_rfl) ?_
  repeat (go_big_quiet_step (fail))
  refine wpQuiet_nil ?_
  rintro _ ⟨v2,rfl⟩
  have x3:=g3 v2;have x4:=g4 v2
  have B5:=Lib.hid (up_trans B4.out v2.up)
  clear a0 g0 g3 g4 h0
  generalize v2.now=w5 at *
  clear u v2
  cases t1
  ·cases t3
   ·obtain rfl:V=0:=hV
    go_wp2
    go_ret
    exact ⟨rfl,B5.out⟩
   ·cases t4
    ·obtain rfl:V=0:=hV
     go_wp2
     go_ret
     exact ⟨rfl,B5.out⟩
    ·cases fy
     ·obtain rfl:V=4:=hV
      go_wp2
      go_ret
      exact ⟨rfl,B5.out⟩
     ·obtain rfl:V=3:=hV
      go_wp2
      go_ret
      exact ⟨rfl,B5.out⟩
  ·cases t2
   ·cases t3
    ·obtain rfl:V=0:=hV
     go_wp2
     go_ret
     exact ⟨rfl,B5.out⟩
    ·cases t4
     ·obtain rfl:V=0:=hV
      go_wp2
      go_ret
      exact ⟨rfl,B5.out⟩
     ·cases fy
      ·obtain rfl:V=4:=hV
       go_wp2
       go_ret
       exact ⟨rfl,B5.out⟩
      ·obtain rfl:V=3:=hV
       go_wp2
       go_ret
       exact ⟨rfl,B5.out⟩
   ·cases fx
    ·obtain rfl:V=2:=hV
     go_wp2
     go_ret
     exact ⟨rfl,B5.out⟩
    ·obtain rfl:V=1:=hV
     go_wp2
     go_ret
     exact ⟨rfl,B5.out⟩
set_option maxHeartbeats 2000000 in
set_option maxRecDepth 100000 in
theorem refEdge_down (c r X Y px py qx qy pc pr qc qr V:Int) (fx fy gx gy t1 t2 t3 t4:Bool) (ad:Option Addr) (n cap a b m:Nat) (w:World) (hm:m≤64) (hc:1≤c∧c≤64) (ha:a<m) (hb:b<m) (hX:0≤X∧X≤64) (hY:0≤Y∧Y≤64) (hXY:Y<X)
  (e1:Y.tmod c=pc) (e2:Y.tdiv c=pr) (e3:X.tmod c=qc) (e4:X.tdiv c=qr) (hpc:0≤pc∧pc≤64) (hpr:0≤pr∧pr≤64) (hqc:0≤qc∧qc≤64) (hqr:0≤qr∧qr≤64)
  (k1:(pr==qr)=t1) (k2:(qc==pc+1)=t2) (k3:(pc==qc)=t3) (k4:(qr==pr+1)=t4)
  (hV:V=if (t1&&t2)=true then (if gx=true then 1 else 2) else if (t3&&t4)=true then (if gy=true then 3 else 4) else 0)
  (KF:∀ w1,Below w.heap.size w w1→Calls Tryz.prog 63 #[.agg #[.int .i64 c,.int .i64 r,.slice ad n cap]] w1 fun e w'=>∃ g cp,e=.returned (.slice (some ⟨g,0,none⟩) m cp)∧(w'.cell? ⟨g,a*5,none⟩=some (.int .i64 X)∧w'.cell? ⟨g,a*5+1,none⟩=some (.int .i64 px)∧w'.cell? ⟨g,a*5+2,none⟩=some (.int .i64 py)∧w'.cell? ⟨g,a*5+3,none⟩=some (.bool fx)∧w'.cell? ⟨g,a*5+4,none⟩=some (.bool fy)) ∧
   (w'.cell? ⟨g,b*5,none⟩=some (.int .i64 Y)∧w'.cell? ⟨g,b*5+1,none⟩=some (.int .i64 qx)∧w'.cell? ⟨g,b*5+2,none⟩=some (.int .i64 qy)∧w'.cell? ⟨g,b*5+3,none⟩=some (.bool gx)∧w'.cell? ⟨g,b*5+4,none⟩=some (.bool gy))∧Below w1.heap.size w1 w') :
  Calls Tryz.prog 64 #[.agg #[.int .i64 c,.int .i64 r,.slice ad n cap],.int .i64 (a:Int),.int .i64 (b:Int)] w fun e w'=>e=.returned (.int .i64 V)∧Below w.heap.size w w':=by
 have HB0:=Lib.hid (up_alloc (Below.refl _ w) (.cells #[.int .i64 c,.int .i64 r,.slice ad n cap] 26))
 have HF:=Lib.hid KF
 clear KF
 have e1':Y%c=pc:=by rw [←Int.tmod_eq_emod_of_nonneg (by omega)];exact e1
 have e2':Y / c=pr:=by rw [←Int.tdiv_eq_ediv_of_nonneg (by omega)];exact e2
 have e3':X%c=qc:=by rw [←Int.tmod_eq_emod_of_nonneg (by omega)];exact e3
 have e4':X / c=qr:=by rw [←Int.tdiv_eq_ediv_of_nonneg (by omega)];exact e4
 have hc0:c≠0:=by omega
 have z0:(0:Int)≤(a:Int):=by omega
 have z1:(a:Int)<(m:Int):=by omega
 have z2:(0:Int)≤(b:Int):=by omega
 have z3:(b:Int)<(m:Int):=by omega
 have y0:decide ((a:Int)<0)=false:=by simp
 have y1:decide ((b:Int)<0)=false:=by simp
 have y2:decide ((m:Int)≤(a:Int))=false:=by simp;omega
 have y3:decide ((m:Int)≤(b:Int))=false:=by simp;omega
 have y2':decide (m≤a)=false:=by simp;omega
 have y3':decide (m≤b)=false:=by simp;omega
 have y4:decide (Y<X)=true:=by simp;omega
 go_enter Tryz.func64,Tryz.ntmps64
 go_wp2_with fail
 refine (HF.out _ HB0.out).mono ?_
 rintro e w1 ⟨g,cp,rfl,⟨p0,p1,p2,p3,p4⟩,⟨q0,q1,q2,q3,q4⟩,hb1⟩
 have A:=(Bx.new w 26 [.int .i64 c,.int .i64 r,.slice ad n cap]).up hb1
 have B1:=Lib.hid (up_trans HB0.out hb1)
 have KS:∀ w':World,Below w1.heap.size w1 w'→w'.cell? ⟨g,a*5,none⟩=some (.int .i64 X)∧w'.cell? ⟨g,a*5+1,none⟩=some (.int .i64 px)∧w'.cell? ⟨g,a*5+2,none⟩=some (.int .i64 py)∧w'.cell? ⟨g,a*5+3,none⟩=some (.bool fx)∧w'.cell? ⟨g,a*5+4,none⟩=some (.bool fy)∧w'.cell? ⟨g,b*5,none⟩=some (.int .i64 Y)∧w'.cell? ⟨g,b*5+1,none⟩=some (.int .i64 qx)∧w'.cell? ⟨g,b*5+2,none⟩=some (.int .i64 qy)∧w'.cell? ⟨g,b*5+3,none⟩=some (.bool gx)∧w'.cell? ⟨g,b*5+4,none⟩=some (.bool gy):=fun w' h =>
  ⟨bl_cell h p0,bl_cell h p1,bl_cell h p2,bl_cell h p3,bl_cell h p4,bl_cell h q0,bl_cell h q1,bl_cell h q2,bl_cell h q3,bl_cell h q4⟩
 have HS:=Lib.hid KS
 have HA:=Lib.hid A
 have E:=Lib.hid (And.intro e1 (And.intro e2 (And.intro e3 (And.intro e4 (And.intro e1' (And.intro e2' (And.intro e3' e4')))))))
 have KK:=Lib.hid (And.intro k1 (And.intro k2 (And.intro k3 k4)))
 clear hb1 p0 p1 p2 p3 p4 q0 q1 q2 q3 q4 KS A e1 e2 e3 e4 e1' e2' e3' e4' k1 k2 k3 k4
 go_wp2_with fail
 go_cut [8,9] (fun s8 s9 wx=>TwoP w1 [.int .i64 X,.int .i64 px,.int .i64 py,.bool fx,.bool fy] [.int .i64 Y,.int .i64 qx,.int .i64 qy,.bool gx,.bool gy] s8 s9 wx)
 case first =>
  go_region_held3 (fun w'=>w'.cell? ⟨g,a*5,none⟩=some (.int .i64 X)∧w'.cell? ⟨g,a*5+1,none⟩=some (.int .i64 px)∧w'.cell? ⟨g,a*5+2,none⟩=some (.int .i64 py)∧w'.cell? ⟨g,a*5+3,none⟩=some (.bool fx)∧w'.cell? ⟨g,a*5+4,none⟩=some (.bool fy)∧w'.cell? ⟨g,b*5,none⟩=some (.int .i64 Y)∧w'.cell? ⟨g,b*5+1,none⟩=some (.int .i64 qx)∧w'.cell? ⟨g,b*5+2,none⟩=some (.int .i64 qy)∧w'.cell? ⟨g,b*5+3,none⟩=some (.bool gx)∧w'.cell? ⟨g,b*5+4,none⟩=some (.bool gy))
   ((refine HS.out _ ?_;repeat (first | (with_reducible exact Below.refl _ _) | (with_reducible apply up_drew) | (with_reducible apply up_alloc) | (with_reducible refine up_set ?_ (by simp<;>omega) _))))
   (fail)
  all_goals
   rename_i hHeld
   clear hHeld
   go_wp2_with fail
   go_meet
   first
    | exact twoP_1 w1 108 _ _ _ _
    | exact twoP_2 w1 108 _ _ _ _
 case rest =>
  obtain ⟨g',h',rfl,rfl,lg,lh,ne,G,H,hb⟩:=hcut
  have ne':h'≠g':=fun e=>ne e.symm
  have A2:=HA.out.up hb
  have B2:=Lib.hid (up_trans B1.out hb)
  have gA:=G.cell 0 rfl
  have hA:=H.cell 0 rfl
  clear gA hA
  have gA:=G.cell 0 rfl;have gB:=G.cell 1 rfl;have gC:=G.cell 2 rfl;have gD:=G.cell 3 rfl;have gE:=G.cell 4 rfl;have gF:=G.free
  have hA:=H.cell 0 rfl;have hB:=H.cell 1 rfl;have hC:=H.cell 2 rfl;have hD:=H.cell 3 rfl;have hE:=H.cell 4 rfl;have hF:=H.free
  go_wp2_with fail
  have G4:=((((((((((G.set 0 (.int .i64 Y)).set 1 (.int .i64 qx)).set 2 (.int .i64 qy)).set 3 (.bool gx)).set 4 (.bool gy)).far (p:=⟨h',0,none⟩) ne' (.int .i64 X)).far (p:=⟨h',1,none⟩) ne' (.int .i64 px)).far (p:=⟨h',2,none⟩) ne' (.int .i64 py)).far (p:=⟨h',3,none⟩) ne' (.bool fx)).far (p:=⟨h',4,none⟩) ne' (.bool fy))
  have H4:=((((((((((H.far (p:=⟨g',0,none⟩) ne (.int .i64 Y)).far (p:=⟨g',1,none⟩) ne (.int .i64 qx)).far (p:=⟨g',2,none⟩) ne (.int .i64 qy)).far (p:=⟨g',3,none⟩) ne (.bool gx)).far (p:=⟨g',4,none⟩) ne (.bool gy)).set 0 (.int .i64 X)).set 1 (.int .i64 px)).set 2 (.int .i64 py)).set 3 (.bool fx)).set 4 (.bool fy))
  have U4:=(up_set (up_set (up_set (up_set (up_set (up_set (up_set (up_set (up_set (up_set hb (p:=⟨g',0,none⟩) lg (.int .i64 Y)) (p:=⟨g',1,none⟩) lg (.int .i64 qx)) (p:=⟨g',2,none⟩) lg (.int .i64 qy)) (p:=⟨g',3,none⟩) lg (.bool gx)) (p:=⟨g',4,none⟩) lg (.bool gy)) (p:=⟨h',0,none⟩) lh (.int .i64 X)) (p:=⟨h',1,none⟩) lh (.int .i64 px)) (p:=⟨h',2,none⟩) lh (.int .i64 py)) (p:=⟨h',3,none⟩) lh (.bool fx)) (p:=⟨h',4,none⟩) lh (.bool fy))
  clear gA gB gC gD gE gF hA hB hC hD hE hF G H A2 B2 hb lg lh
  generalize ((((((((((wc.setCell ⟨g',0,none⟩ (.int .i64 Y)).setCell ⟨g',1,none⟩ (.int .i64 qx)).setCell ⟨g',2,none⟩ (.int .i64 qy)).setCell ⟨g',3,none⟩ (.bool gx)).setCell ⟨g',4,none⟩ (.bool gy)).setCell ⟨h',0,none⟩ (.int .i64 X)).setCell ⟨h',1,none⟩ (.int .i64 px)).setCell ⟨h',2,none⟩ (.int .i64 py)).setCell ⟨h',3,none⟩ (.bool fx)).setCell ⟨h',4,none⟩ (.bool fy))=w4 at *
  simp only [List.set_cons_zero,List.set_cons_succ] at G4 H4
  have A4:=HA.out.up U4
  have B4:=Lib.hid (up_trans B1.out U4)
  clear U4
  obtain ⟨e1,e2,e3,e4,e1',e2',e3',e4'⟩:=E.out
  obtain ⟨k1,k2,k3,k4⟩:=KK.out
  have a0:=fun u:Later w4=>u.cell (A4.cell 0 rfl)
  have g0:=fun u:Later w4=>u.cell (G4.cell 0 rfl);have g3:=fun u:Later w4=>u.cell (G4.cell 3 rfl);have g4:=fun u:Later w4=>u.cell (G4.cell 4 rfl)
  have h0:=fun u:Later w4=>u.cell (H4.cell 0 rfl)
  clear A4 G4 H4
  go_wp2_with fail
  refine later_start (w:=w4) ?_
  intro u
  refine wp_region_later (by kernel_rfl) (by kernel_rfl) ?_
  repeat (go_big_quiet_step (fail))
  refine wpQuiet_nil ?_
  rintro _ ⟨v2,rfl⟩
  have x3:=g3 v2;have x4:=g4 v2
  have B5:=Lib.hid (up_trans B4.out v2.up)
  clear a0 g0 g3 g4 h0
  generalize v2.now=w5 at *
  clear u v2
  cases t1
  ·cases t3
   ·obtain rfl:V=0:=hV
    go_wp2
    go_ret
    exact ⟨rfl,B5.out⟩
   ·cases t4
    ·obtain rfl:V=0:=hV
     go_wp2
     go_ret
     exact ⟨rfl,B5.out⟩
    ·cases gy
     ·obtain rfl:V=4:=hV
      go_wp2
      go_ret
      exact ⟨rfl,B5.out⟩
     ·obtain rfl:V=3:=hV
      go_wp2
      go_ret
      exact ⟨rfl,B5.out⟩
  ·cases t2
   ·cases t3
    ·obtain rfl:V=0:=hV
     go_wp2
     go_ret
     exact ⟨rfl,B5.out⟩
    ·cases t4
     ·obtain rfl:V=0:=hV
      go_wp2
      go_ret
      exact ⟨rfl,B5.out⟩
     ·cases gy
      ·obtain rfl:V=4:=hV
       go_wp2
       go_ret
       exact ⟨rfl,B5.out⟩
      ·obtain rfl:V=3:=hV
       go_wp2
       go_ret
       exact ⟨rfl,B5.out⟩
   ·cases gx
    ·obtain rfl:V=2:=hV
     go_wp2
     go_ret
     exact ⟨rfl,B5.out⟩
    ·obtain rfl:V=1:=hV
     go_wp2
     go_ret
     exact ⟨rfl,B5.out⟩
theorem refFold_any (s:Sc) (a:Option Addr) (cap:Nat) (w:World) (hc:s.c≤9223372036854775807) (hr:s.r≤9223372036854775807) (hl:s.l.length≤1000000) (hI:InL w a s.l) :
  Calls Tryz.prog 63 #[.agg #[.int .i64 s.c,.int .i64 s.r,.slice a s.l.length cap]] w fun e w'=>∃ b cp,e=.returned (.slice b (pcR s).length cp)∧Below w.heap.size w w':=by
 cases h:rightM s
 ·have e:pcR s=[]:=by unfold pcR;rw [if_neg (by simp [h])]
  rw [e]
  exact (refFold_no s a cap w hc hr hl hI h).mono fun _ _ ⟨h1,h2⟩=>⟨none,0,h1,h2⟩
 ·have e:pcR s=pcL s:=by unfold pcR;rw [if_pos h]
  have e2:(pcR s).length=(foldL s).length:=by rw [e];unfold pcL;rw [List.length_map]
  rw [e2]
  exact (refFold_yes s a cap w hI h).mono fun _ _ ⟨g,c',h1,h2,h3,h4⟩=>⟨_,c',h1,h4⟩
theorem refFold_two (s:Sc) (a:Option Addr) (cap:Nat) (i k:Nat) (p q:Pc) (hp:(pcR s)[i]?=some p) (hq:(pcR s)[k]?=some q) :
  ∃ px py qx qy:Int,∀ w,InL w a s.l→Calls Tryz.prog 63 #[.agg #[.int .i64 s.c,.int .i64 s.r,.slice a s.l.length cap]] w fun e w'=>∃ g cp,e=.returned (.slice (some ⟨g,0,none⟩) (pcR s).length cp)∧(w'.cell? ⟨g,i*5,none⟩=some (.int .i64 p.n)∧w'.cell? ⟨g,i*5+1,none⟩=some (.int .i64 px)∧w'.cell? ⟨g,i*5+2,none⟩=some (.int .i64 py)∧w'.cell? ⟨g,i*5+3,none⟩=some (.bool p.fx)∧w'.cell? ⟨g,i*5+4,none⟩=some (.bool p.fy)) ∧
   (w'.cell? ⟨g,k*5,none⟩=some (.int .i64 q.n)∧w'.cell? ⟨g,k*5+1,none⟩=some (.int .i64 qx)∧w'.cell? ⟨g,k*5+2,none⟩=some (.int .i64 qy)∧w'.cell? ⟨g,k*5+3,none⟩=some (.bool q.fx)∧w'.cell? ⟨g,k*5+4,none⟩=some (.bool q.fy))∧Below w.heap.size w w':=by
 by_cases h:rightM s=true
 ·have e:pcR s=(foldL s).map toPc:=by unfold pcR;rw [if_pos h];rfl
  rw [e,List.getElem?_map,Option.map_eq_some_iff] at hp hq
  obtain ⟨P,hP,rfl⟩:=hp
  obtain ⟨Q,hQ,rfl⟩:=hq
  refine ⟨P.col,P.row,Q.col,Q.row,fun w hI=>?_⟩
  rw [e,List.length_map]
  exact (refFold_yes s a cap w hI h).mono fun _ _ ⟨g,c',h1,h2,h3,h4⟩=>⟨g,c',h1,h2.cells hP,h2.cells hQ,h4⟩
 ·have e:pcR s=[]:=by unfold pcR;rw [if_neg h]
  rw [e] at hp
  simp at hp
set_option maxHeartbeats 1000000 in
set_option maxRecDepth 100000 in
theorem refEdge_out (c r a b:Int) (ad:Option Addr) (n cap m:Nat) (w:World) (hm:m≤64) (h:¬ ((0≤a∧a<(m:Int))∧0≤b∧b<(m:Int)))
  (KF:∀ w1,Below w.heap.size w w1→Calls Tryz.prog 63 #[.agg #[.int .i64 c,.int .i64 r,.slice ad n cap]] w1 fun e w'=>∃ g cp,e=.returned (.slice g m cp)∧Below w1.heap.size w1 w') :
  Calls Tryz.prog 64 #[.agg #[.int .i64 c,.int .i64 r,.slice ad n cap],.int .i64 a,.int .i64 b] w fun e w'=>e=.returned (.int .i64 0)∧Below w.heap.size w w':=by
 have HB0:=Lib.hid (up_alloc (Below.refl _ w) (.cells #[.int .i64 c,.int .i64 r,.slice ad n cap] 26))
 have HF:=Lib.hid KF
 clear KF
 obtain ⟨t1,e1⟩:∃ t,decide (a<0)=t:=⟨_,rfl⟩
 obtain ⟨t2,e2⟩:∃ t,decide (b<0)=t:=⟨_,rfl⟩
 obtain ⟨t3,e3⟩:∃ t,decide ((m:Int)≤a)=t:=⟨_,rfl⟩
 obtain ⟨t4,e4⟩:∃ t,decide ((m:Int)≤b)=t:=⟨_,rfl⟩
 have ht:t1=true∨t2=true∨t3=true∨t4=true:=by
  subst e1 e2 e3 e4
  simp only [decide_eq_true_eq]
  omega
 clear h
 go_enter Tryz.func64,Tryz.ntmps64
 go_wp2_with fail
 refine (HF.out _ HB0.out).mono ?_
 rintro e w1 ⟨g,cp,rfl,hb1⟩
 have B1:=Lib.hid (up_trans HB0.out hb1)
 clear hb1
 cases t1
 ·cases t2
  ·cases t3
   ·obtain rfl:t4=true:=by simpa using ht
    go_wp2
    go_ret
    exact ⟨rfl,B1.out⟩
   ·go_wp2
    go_ret
    exact ⟨rfl,B1.out⟩
  ·go_wp2
   go_ret
   exact ⟨rfl,B1.out⟩
 ·go_wp2
  go_ret
  exact ⟨rfl,B1.out⟩
theorem edgN_placesB {c x y:Int} (fx fy:Bool) (hc:1≤c) (hx:0≤x) (hxy:x≤y) :
  edgN c x y fx fy=if ((x.tdiv c==y.tdiv c)&&(y.tmod c==x.tmod c+1))=true then (if fx=true then 1 else 2) else if ((x.tmod c==y.tmod c)&&(y.tdiv c==x.tdiv c+1))=true then (if fy=true then 3 else 4) else 0:=by
 rw [edgN_places fx fy hc hx hxy]
 simp only [Bool.and_eq_true,beq_iff_eq]
theorem place_in {c x:Int} (hc:1≤c∧c≤64) (hx:0≤x∧x≤64):(0≤x.tmod c∧x.tmod c≤64)∧0≤x.tdiv c∧x.tdiv c≤64:=by
 have h1:=Int.tmod_nonneg c hx.1
 have h2:=Int.tmod_lt_of_pos x (show 0<c by omega)
 have h3:=Int.tdiv_nonneg hx.1 (show 0≤c by omega)
 have h4:=Int.tdiv_le_self c hx.1
 omega
theorem refEdge_any (s:Sc) (a:Option Addr) (cap:Nat) (x y:Int) (w:World) (hc:s.c≤9223372036854775807) (hr:s.r≤9223372036854775807) (hl:s.l.length≤1000000) (hI:InL w a s.l) :
  Calls Tryz.prog 64 #[.agg #[.int .i64 s.c,.int .i64 s.r,.slice a s.l.length cap],.int .i64 x,.int .i64 y] w fun e w'=>e=.returned (.int .i64 (edgM s.c (pcR s) x y))∧Below w.heap.size w w':=by
 have hm:=pcR_small s
 by_cases h:(0≤x∧x<(pcR s).length)∧0≤y∧y<(pcR s).length
 ·obtain ⟨⟨ha0,ha1⟩,hb0,hb1⟩:=h
  obtain ⟨i,rfl⟩:=Int.eq_ofNat_of_zero_le ha0
  obtain ⟨k,rfl⟩:=Int.eq_ofNat_of_zero_le hb0
  have hi:i<(pcR s).length:=by omega
  have hk:k<(pcR s).length:=by omega
  obtain ⟨p,hp⟩:∃ p,(pcR s)[i]?=some p:=⟨_,List.getElem?_eq_getElem hi⟩
  obtain ⟨q,hq⟩:∃ q,(pcR s)[k]?=some q:=⟨_,List.getElem?_eq_getElem hk⟩
  obtain ⟨jp,hjp,ep,_⟩:=pcR_at s i p hp
  obtain ⟨jq,hjq,eq,_⟩:=pcR_at s k q hq
  have hc':=pcR_c s (by omega)
  rw [edgM_in hp hq]
  obtain ⟨px,py,qx,qy,KF⟩:=refFold_two s a cap i k p q hp hq
  have hP:0≤p.n∧p.n≤64:=by omega
  have hQ:0≤q.n∧q.n≤64:=by omega
  obtain ⟨b1,b2⟩:=place_in hc' hP
  obtain ⟨b3,b4⟩:=place_in hc' hQ
  unfold edgP
  by_cases hle:p.n≤q.n
  ·rw [if_pos hle]
   exact refEdge_up s.c s.r p.n q.n px py qx qy _ _ _ _ _ p.fx p.fy q.fx q.fy _ _ _ _ a _ cap i k _ w hm hc' hi hk hP hQ (by omega) rfl rfl rfl rfl b1 b2 b3 b4 rfl rfl rfl rfl (edgN_placesB p.fx p.fy hc'.1 hP.1 hle) (fun w1 hb=>KF w1 (hI.up hb))
  ·rw [if_neg hle]
   exact refEdge_down s.c s.r p.n q.n px py qx qy _ _ _ _ _ p.fx p.fy q.fx q.fy _ _ _ _ a _ cap i k _ w hm hc' hi hk hP hQ (by omega) rfl rfl rfl rfl b3 b4 b1 b2 rfl rfl rfl rfl (edgN_placesB q.fx q.fy hc'.1 hQ.1 (by omega)) (fun w1 hb=>KF w1 (hI.up hb))
 ·rw [edgM_out h]
  exact refEdge_out _ _ _ _ _ _ _ _ _ hm h (fun w1 hb=>refFold_any s a cap w1 hc hr hl (hI.up hb))
set_option maxHeartbeats 1000000 in
theorem refNests_any (s:Sc) (a:Option Addr) (cap:Nat) (w:World) (hc:s.c≤9223372036854775807) (hr:s.r≤9223372036854775807) (hl:s.l.length≤1000000) (hI:InL w a s.l) :
  Calls Tryz.prog 48 #[.agg #[.int .i64 s.c,.int .i64 s.r,.slice a s.l.length cap]] w fun e w'=>e=.returned (.bool (nestM s.c (pcR s)))∧Below w.heap.size w w':=by
 have K1:=fun w1 (h:Below w.heap.size w w1)=>refFold_any s a cap w1 hc hr hl (hI.up h)
 have KE:=fun w1 (h:Below w.heap.size w w1) (x y:Int)=>refEdge_any s a cap x y w1 hc hr hl (hI.up h)
 have hm:=pcR_small s
 have HB0:=Lib.hid (up_alloc (Below.refl _ w) (.cells #[.int .i64 s.c,.int .i64 s.r,.slice a s.l.length cap] 26))
 have hno:=fun k (hk:k<(pcR s).length / 2)=>@nest_no s.c (pcR s) k hk
 have hyes:=@nest_yes s.c (pcR s)
 have hodd:=@nest_odd s.c (pcR s)
 unfold NestRel at *
 generalize pcR s=L at *
 obtain ⟨m,hmm⟩:∃ m,L.length=m:=⟨_,rfl⟩
 rw [hmm] at hm hno hyes hodd K1
 obtain ⟨c,hcc⟩:∃ c,s.c=c:=⟨_,rfl⟩
 obtain ⟨r,hrr⟩:∃ r,s.r=r:=⟨_,rfl⟩
 obtain ⟨n,hnn⟩:∃ n,s.l.length=n:=⟨_,rfl⟩
 rw [hcc,hrr,hnn] at K1 HB0 KE
 rw [hcc] at hno hyes hodd
 rw [hcc,hrr,hnn]
 obtain ⟨V,hV⟩:∃ V,nestM c L=V:=⟨_,rfl⟩
 rw [hV] at hno hyes hodd ⊢
 obtain ⟨h,hh⟩:∃ h,m / 2=h:=⟨_,rfl⟩
 rw [hh] at hno hyes
 have H1:=Lib.hid K1;have HE:=Lib.hid KE;have HNo:=Lib.hid hno;have HYes:=Lib.hid hyes;have HOdd:=Lib.hid hodd
 clear K1 KE hno hyes hodd hI hc hr hl hcc hrr hnn hV
 have e3:(m:Int) / 2=(h:Int):=by omega
 have e4:(m:Int).tdiv 2=(h:Int):=by rw [Int.tdiv_eq_ediv_of_nonneg (by omega)];omega
 have hhm:h≤m:=by omega
 have HH:=Lib.hid hh
 clear hh
 have HM:=Lib.hid hmm
 clear hmm
 go_enter Tryz.func48,Tryz.ntmps48
 go_wp2_with fail
 refine (H1.out _ HB0.out).mono ?_
 rintro e w1 ⟨b,cp,rfl,hb⟩
 have HA:=Lib.hid ((Bx.new w 26 [.int .i64 c,.int .i64 r,.slice a n cap]).up hb)
 have B1:=Lib.hid (up_trans HB0.out hb)
 clear hb
 go_wp2
 go_loopw [4] (fun i wr=>NestRel w1 c L h i wr) (fun i _=>h-(intOf i).toNat)
 case atStart=>exact ⟨0,by omega,by go_num,Lib.hid (fun j hj=>absurd hj (Nat.not_lt_zero _)),Below.refl _ _⟩
 case round =>
  obtain ⟨k,hk,rfl,hall,hb⟩:=hrel
  have A:=HA.out.up hb
  have f0:=A.cell 0 rfl;have f1:=A.cell 1 rfl;have f2:=A.cell 2 rfl
  have HB:=Lib.hid (up_trans B1.out hb)
  have HB9:=Lib.hid hb
  clear hb A
  by_cases hlt:k<h
  ·have z1:(k:Int)<(h:Int):=by omega
   have KE:=HE.out _ HB.out (k:Int) ((m:Int)-1-(k:Int))
   have hno:=HNo.out k hlt
   obtain ⟨E,hE⟩:∃ E,edgM c L (k:Int) ((m:Int)-1-(k:Int))=E:=⟨_,rfl⟩
   rw [hE] at KE
   rw [hE] at hno
   have HKE:=Lib.hid KE;have HNk:=Lib.hid hno;have HEk:=Lib.hid hE
   clear KE hno hE
   by_cases h1:E=1
   ·subst h1
    go_wp2_with fail
    refine HKE.out.mono ?_
    rintro e w3 ⟨rfl,hb3⟩
    have HB3:=Lib.hid (up_trans HB9.out hb3)
    clear hb3 f0 f1 f2
    go_wp2
    refine ⟨⟨k+1,by omega,by go_num,Lib.hid (fun j hj=>?_),HB3.out⟩,by simp [intOf];omega⟩
    by_cases hjk:j<k
    ·exact hall.out j hjk
    ·obtain rfl:j=k:=by omega
     rw [HM.out]
     exact HEk.out
   ·have h1':(E != 1)=true:=bne_iff_ne.2 h1
    obtain rfl:=HNk.out h1
    go_wp2_with fail
    refine HKE.out.mono ?_
    rintro e w3 ⟨rfl,hb3⟩
    have HB3:=Lib.hid (up_trans HB.out hb3)
    clear hb3 f0 f1 f2
    go_wp2
    go_ret
    exact ⟨rfl,HB3.out⟩
  ·obtain rfl:k=h:=by omega
   have hHH:=HH.out
   rcases (by omega:m=0∨(0<m∧m%2=1)∨(0<m∧m%2=0)) with rfl | ⟨h0,h2⟩ | ⟨h0,h2⟩
   ·obtain rfl:=HOdd.out (.inl rfl)
    clear hHH
    go_wp2
    go_ret
    exact ⟨rfl,HB.out⟩
   ·obtain rfl:=HOdd.out (.inr (by omega))
    have q0:(0:Int)<(m:Int):=by omega
    have q1:(m:Int)%2=1:=by omega
    have q2:(m:Int).tmod 2=1:=by rw [Int.tmod_eq_emod_of_nonneg (by omega)];omega
    clear hHH
    go_wp2
    go_ret
    exact ⟨rfl,HB.out⟩
   ·obtain rfl:=HYes.out h0 h2 (by have:=hall.out;rwa [HM.out] at this)
    have q0:(0:Int)<(m:Int):=by omega
    have q1:(m:Int)%2=0:=by omega
    have q2:(m:Int).tmod 2=0:=by rw [Int.tmod_eq_emod_of_nonneg (by omega)];omega
    clear hHH
    go_wp2
    go_ret
    exact ⟨rfl,HB.out⟩
end Go.Proofs.YtbbjileignefbaaGreatDoor
