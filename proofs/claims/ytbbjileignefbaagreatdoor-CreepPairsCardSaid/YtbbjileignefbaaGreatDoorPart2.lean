/- Part 2 of the texts that the proofs of this seat share: DecRef, DecCode, DecIn, WordsCode, Texts, StepMath, LexMath, SchemeMath, StepText. -/
import Derived.Test.YtbbjileignefbaaGreatDoorProg
import Derived.Test.YtbbjileignefbaaGreatDoorPart1
import Derived.WalkKit
import Derived.BigCall
import Derived.BigGuard
import Derived.Below
import Derived.Lib.Hide
import Derived.Lib.Walk
import Derived.Laws.DeepStrings4
import Derived.Laws.Concat
import Derived.Lib.AtoiErrMem
import Derived.Deep.AppendLies
import Derived.OwnWalk
import Derived.Laws.OwnMore
import Derived.Laws.IdiomStrings
import Derived.Laws.BytesArg
import Derived.IntWalk
import Derived.Lib.Strings
import Derived.Lib.Split
set_option linter.unusedVariables false
namespace Go.Proofs.YtbbjileignefbaaGreatDoor
open Go.RowKit DecMath
theorem str_size (l:List UInt8):(ByteArray.mk l.toArray).size=l.length:=by show l.toArray.size=_;simp
theorem str_ret {a b:ByteArray} (h:a=b):Ending.returned (.string a)=.returned (.string b):=by rw [h]
theorem ret_pair2 {p:Int×Bool} {a:Int} {b:Bool} (h:p=(a,b)):Ending.returned (.tuple #[.int .i64 a,.bool b])=.returned (.tuple #[.int .i64 p.1,.bool p.2]):=by rw [h]
theorem not_empty (s:ByteArray) (h:s.size≠0):¬ s=ByteArray.empty:=fun e=>h (by rw [e];rfl)
theorem piece (d:Int) (h0:0≤d) (h1:d≤9) (w:World) :
  (Instr.slice 9 (.string ⟨#[48,49,50,51,52,53,54,55,56,57]⟩) (some (.int .i64 d)) (some (.int .i64 (d+1))) none).run Tryz.prog w=.ok (.string ⟨[UInt8.ofNat (48+d.toNat)].toArray⟩) w:=by
 have key:∀ m:Fin 10,(ByteArray.mk #[48,49,50,51,52,53,54,55,56,57]).extract m.val (m.val+1)=⟨[UInt8.ofNat (48+m.val)].toArray⟩:=by decide +kernel
 have sz:((ByteArray.mk #[48,49,50,51,52,53,54,55,56,57]).size:Int)=10:=by decide
 rw [run_slice_string_if w _ _ _ _ _ _ Tryz.underlying9,if_pos (by omega),if_pos (by omega),show (d+1).toNat=d.toNat+1 from by omega]
 exact congrArg (fun b=>Result.ok (Value.string b) w) (key ⟨d.toNat,by omega⟩)
theorem join (c:UInt8) (l:List UInt8) (h:l.length<25) (w:World) :
  (Op.stringOp .add ⟨[c].toArray⟩ ⟨l.toArray⟩).run Tryz.prog w=.ok (.string ⟨(c :: l).toArray⟩) w:=by
 rw [run_string_add_sum w _ _ (by rw [str_size,str_size];simp;omega),ByteArray.mk_append_mk]
 simp
theorem tds (k q e:Int) (n:Nat) (l:List UInt8) (hk:k≠0) (hq:q.natAbs=k.natAbs / 10) (he:e.toNat=k.natAbs%10) (h:td n=td k.natAbs++l) :
  td n=td q.natAbs++UInt8.ofNat (48+e.toNat) :: l:=by
 rw [h,td_step _ (by omega),hq,he];simp
theorem len_step (l:List UInt8) (c:UInt8) (a b n:Nat) (hb:b=a / 10) (h:10 ^ l.length*a≤n):10 ^ (c :: l).length*b≤n:=by
 rw [List.length_cons,Nat.pow_succ,Nat.mul_assoc]
 exact Nat.le_trans (Nat.mul_le_mul_left _ (by omega)) h
theorem len_bd (l:List UInt8) (a n:Nat) (ha:a≠0) (hn:n≤9223372036854775808) (h:10 ^ l.length*a≤n):l.length<25:=by
 have h1:10 ^ l.length≤10 ^ l.length*a:=Nat.le_mul_of_pos_right _ (by omega)
 have h3:(9223372036854775808:Nat)<10 ^ 25:=by decide
 have h2:10 ^ l.length<10 ^ 25:=by omega
 exact (Nat.pow_lt_pow_iff_right (by decide)).1 h2
set_option maxRecDepth 100000 in
theorem refPut_any (n:Int) (w:World) (n0:-9223372036854775808≤n) (n1:n≤9223372036854775807) :
  Calls Tryz.prog 83 #[.int .i64 n] w fun e w'=>e=.returned (.string ⟨(Lib.itoa n).toArray⟩)∧w=w':=by
 by_cases hz:n=0
 ·subst hz
  have e0:Lib.itoa 0=[48]:=by rw [Lib.itoa,if_neg (by decide),Lib.decDigits,dif_pos (by decide)];rfl
  rw [e0]
  go_enter Tryz.func83,Tryz.ntmps83
  go_wp2
  go_ret
  exact ⟨rfl,rfl⟩
 ·go_enter Tryz.func83,Tryz.ntmps83
  go_wp2
  go_loop [3,4,5] (fun o m _=>∃ (l:List UInt8) (k:Int),o=.string ⟨l.toArray⟩∧m=.int .i64 k∧Hid (td n.natAbs=td k.natAbs++l∧(0≤n→0≤k)∧(n<0→k≤0)∧-9223372036854775808≤k∧k≤9223372036854775807∧10 ^ l.length*k.natAbs≤n.natAbs)) (fun _ m _=>(intOf m).natAbs)
  case atStart=>exact ⟨[],n,rfl,rfl,by simp,fun h=>h,by omega,n0,n1,by simp⟩
  case round =>
   obtain ⟨l,k,rfl,rfl,H⟩:=hrel
   by_cases hk:k=0
   ·subst hk
    have e1:td (0:Int).natAbs++l=l:=by simp [td]
    have e2:Lib.decDigits n.natAbs=l:=by rw [←e1,←H.out.1,td,if_neg (by omega)]
    have hl:l.length<25:=by
     rw [←e2,Lib.decDigits_length]
     have:=nDigits_le 18 n.natAbs (by omega)
     omega
    have hadd:(Op.stringOp .add ⟨#[45]⟩ ⟨l.toArray⟩).run Tryz.prog w=.ok (.string ⟨(45 :: l).toArray⟩) w:=join 45 l hl w
    by_cases hn:n<0
    ·have e3:Lib.itoa n=45 :: l:=by rw [Lib.itoa,if_pos hn,e2]
     have E3:=Lib.hid e3
     clear e1 e2 e3
     go_wp2
     go_ret
     exact ⟨str_ret (by rw [E3.out]),rfl⟩
    ·have e3:Lib.itoa n=l:=by rw [Lib.itoa,if_neg hn,show n.toNat=n.natAbs from by omega,e2]
     have E3:=Lib.hid e3
     clear e1 e2 e3
     go_wp2
     go_ret
     exact ⟨str_ret (by rw [E3.out]),rfl⟩
   ·obtain ⟨q,hq⟩:∃ q,k.tdiv 10=q:=⟨_,rfl⟩
    have q0:q.natAbs=k.natAbs / 10:=by rw [←hq,Int.natAbs_tdiv];rfl
    have hl:=len_bd l _ _ (by omega:k.natAbs≠0) (by omega) H.out.2.2.2.2.2
    have qa:-9223372036854775808≤q:=by have:=H.out;omega
    have qb:q≤9223372036854775807:=by have:=H.out;omega
    by_cases hs:0≤k
    ·obtain ⟨d,hd⟩:∃ d,k.tmod 10=d:=⟨_,rfl⟩
     have d2:d=k%10:=by rw [←hd,Int.tmod_eq_emod_of_nonneg hs]
     have q2:q=k / 10:=by rw [←hq,Int.tdiv_eq_ediv_of_nonneg hs]
     have d0:0≤d:=by omega
     have d1:d≤9:=by omega
     have hp:=piece d d0 d1 w
     have ha:=join (UInt8.ofNat (48+d.toNat)) l hl w
     have H1:=Lib.hid (tds k q d n.natAbs l hk q0 (by omega) H.out.1)
     have H2:=Lib.hid (len_step l (UInt8.ofNat (48+d.toNat)) k.natAbs q.natAbs n.natAbs q0 H.out.2.2.2.2.2)
     have Q:=Lib.hid (And.intro d2 (And.intro q2 q0))
     clear d2 q2 q0
     go_wp2
     go_round
     case rel=>exact ⟨UInt8.ofNat (48+d.toNat) :: l,q,by first | rfl | simp [ByteArray.mk_append_mk],rfl,H1.out,by have:=Q.out;omega,by have:=Q.out;have:=H.out;omega,qa,qb,H2.out⟩
     case measure=>have:=Q.out;simp [intOf];omega
    ·obtain ⟨d,hd⟩:∃ d,k.tmod 10=-d:=⟨_,(Int.neg_neg _).symm⟩
     have d2:d=(-k)%10:=by rw [tmod_eq_if,if_neg hs] at hd;omega
     have q2:q=-((-k) / 10):=by rw [←hq,←Int.neg_neg k,Int.neg_tdiv,Int.tdiv_eq_ediv_of_nonneg (by omega),Int.neg_neg]
     have d0:0≤d:=by omega
     have d1:d≤9:=by omega
     have hp:=piece d d0 d1 w
     have ha:=join (UInt8.ofNat (48+d.toNat)) l hl w
     have H1:=Lib.hid (tds k q d n.natAbs l hk q0 (by omega) H.out.1)
     have H2:=Lib.hid (len_step l (UInt8.ofNat (48+d.toNat)) k.natAbs q.natAbs n.natAbs q0 H.out.2.2.2.2.2)
     have Q:=Lib.hid (And.intro d2 (And.intro q2 q0))
     clear d2 q2 q0
     by_cases hz:d=0
     ·subst hz
      go_wp2
      go_round
      case rel=>exact ⟨UInt8.ofNat (48+(0:Int).toNat) :: l,q,by first | rfl | simp [ByteArray.mk_append_mk],rfl,H1.out,by have:=Q.out;have:=H.out;omega,by have:=Q.out;omega,qa,qb,H2.out⟩
      case measure=>have:=Q.out;simp [intOf];omega
     ·have hz':0<d:=by omega
      go_wp2
      go_round
      case rel=>exact ⟨UInt8.ofNat (48+d.toNat) :: l,q,by first | rfl | simp [ByteArray.mk_append_mk],rfl,H1.out,by have:=Q.out;have:=H.out;omega,by have:=Q.out;omega,qa,qb,H2.out⟩
      case measure=>have:=Q.out;simp [intOf];omega
def refG (l:List UInt8):Option Int :=
 match l with
 | []=>none
 | c :: r=>if c.toNat=45 then rg true 0 r else rg false 0 (c :: r)
theorem refG_itoa (n:Int) (n0:-9223372036854775808≤n) (n1:n≤9223372036854775807):refG (Lib.itoa n)=some n:=by
 unfold Lib.itoa
 split
 ·simp only [refG]
  rw [if_pos (by decide),rg_digits true _ (.inr ⟨rfl,by omega⟩)]
  simp;omega
 ·obtain ⟨c,r,e⟩:=List.exists_cons_of_ne_nil (digits_ne n.toNat)
  have hc:=digits_each n.toNat c (by rw [e];simp)
  have h:=rg_digits false n.toNat (.inl (by omega))
  rw [e] at h ⊢
  simp only [refG]
  rw [if_neg (by omega),h]
  simp;omega
theorem numOf_bad (l:List UInt8) (h:refG l=none):numOf l=(0,false) :=
 numOf_none l fun n a b e=>by rw [←e,refG_itoa n a b] at h;cases h
theorem numOf_off (l:List UInt8) (v:Int) (h:refG l=some v) (hv:Lib.itoa v≠l):numOf l=(0,false) :=
 numOf_none l fun n a b e=>by rw [←e,refG_itoa n a b] at h;cases h;exact hv e
theorem numOf_len (l:List UInt8) (h:l.length=0∨20<l.length):numOf l=(0,false) :=
 numOf_none l fun n a b e=>by have:=itoa_len n a b;rw [e] at this;omega
theorem bytes_list (s:ByteArray):s.toList=s.data.toList:=ByteArray.toList_eq s
theorem drop_at (s:ByteArray) (k:Nat) (h:k<s.size):s.data.toList.drop k=s[k] :: s.data.toList.drop (k+1):=by
 rw [List.drop_eq_getElem_cons (by simpa using h)];rfl
theorem refG_neg (s:ByteArray) (h:0<s.size) (hn:((s[0].toNat:Int)==45)=true):rg true 0 (s.data.toList.drop 1)=refG s.data.toList:=by
 have e:=drop_at s 0 h
 rw [List.drop_zero] at e
 rw [e]
 simp only [refG,List.drop_succ_cons,List.drop_zero]
 rw [if_pos (by simp at hn;omega)]
theorem refG_plain (s:ByteArray) (h:0<s.size) (hn:((s[0].toNat:Int)==45)=false):rg false 0 (s.data.toList.drop 0)=refG s.data.toList:=by
 have e:=drop_at s 0 h
 rw [List.drop_zero] at e
 rw [List.drop_zero,e]
 simp only [refG]
 rw [if_neg (by simp at hn;omega)]
theorem rg_bad (neg:Bool) (v:Int) (s:ByteArray) (k:Nat) (h:k<s.size) (hb:(s[k].toNat:Int)<48∨57<(s[k].toNat:Int)):rg neg v (s.data.toList.drop k)=none:=by
 rw [drop_at s k h,rg,if_pos (by omega)]
theorem rg_good (neg:Bool) (v:Int) (s:ByteArray) (k:Nat) (h:k<s.size) (hb:¬ ((s[k].toNat:Int)<48∨57<(s[k].toNat:Int))):rg neg v (s.data.toList.drop k)=rg neg (w64 (rd neg v s[k])) (s.data.toList.drop (k+1)):=by
 rw [drop_at s k h,rg,if_neg (by omega)]
theorem refG_end (neg:Bool) (v:Int) (s:ByteArray) (h:rg neg v (s.data.toList.drop s.size)=refG s.data.toList):refG s.data.toList=some v:=by
 rw [←h,List.drop_of_length_le (by simp),rg]
theorem rel_to {neg:Bool} {a b:Int} {l:List UInt8} {r:Option Int} (h:rg neg a l=r) (e:b=a):rg neg b l=r:=by rw [e];exact h
theorem w64_bd (x y:Int) (h:y=wrap64 x):-9223372036854775808≤y∧y≤9223372036854775807:=by rw [h];unfold wrap64;omega
set_option maxRecDepth 100000 in
theorem refGet_any (s:ByteArray) (w:World) (hs:s.size≤9223372036854775807) :
  Calls Tryz.prog 67 #[.string s] w fun e w'=>e=.returned (.tuple #[.int .i64 (numOf s.data.toList).1,.bool (numOf s.data.toList).2])∧w=w':=by
 by_cases hlen:s.size=0∨20<s.size
 ·have H:=Lib.hid (numOf_len s.data.toList (by simpa using hlen))
  rcases hlen with hlen | hlen
  ·go_enter Tryz.func67,Tryz.ntmps67
   go_wp2
   go_ret2
   exact ⟨ret_pair2 H.out,rfl⟩
  ·have he:¬ s=ByteArray.empty:=not_empty s (by omega)
   have hb:((s.size:Int)==0)=false:=by simp;omega
   go_enter Tryz.func67,Tryz.ntmps67
   go_wp2
   go_ret2
   exact ⟨ret_pair2 H.out,rfl⟩
 ·have h0:0<s.size:=by omega
  have h20:s.size≤20:=by omega
  clear hlen
  have he:¬ s=ByteArray.empty:=not_empty s (by omega)
  have hb:((s.size:Int)==0)=false:=by simp;omega
  have hc:decide ((20:Int)<s.size)=false:=by simp;omega
  by_cases hneg:((s[0].toNat:Int)==45)=true
  ·have HG:=Lib.hid (refG_neg s h0 hneg)
   go_enter Tryz.func67,Tryz.ntmps67
   go_wp2
   go_loop [4,5,6] (fun n i _=>∃ (k:Nat) (v:Int),k≤s.size∧i=.int .i64 k∧n=.int .i64 v∧(-9223372036854775808≤v∧v≤9223372036854775807)∧Hid ((k=0∧v=0)∨(1≤k∧rg true v (s.data.toList.drop k)=refG s.data.toList))) (fun _ i _=>s.size-(intOf i).toNat)
   case atStart=>exact ⟨0,0,Nat.zero_le _,rfl,rfl,⟨by decide,by decide⟩,.inl ⟨rfl,rfl⟩⟩
   case round =>
    obtain ⟨k,v,hk,rfl,rfl,⟨v0,v1⟩,H⟩:=hrel
    by_cases hlt:k<s.size
    ·by_cases hk0:k=0
     ·subst hk0
      go_wp2
      go_round
      case rel=>exact ⟨1,v,by omega,rfl,rfl,⟨v0,v1⟩,.inr ⟨by omega,by rcases H.out with ⟨_,rfl⟩ | ⟨h,_⟩;exact HG.out;omega⟩⟩
      case measure=>simp [intOf];omega
     have H2:=Lib.hid (H.out.resolve_left fun h=>hk0 h.1).2
     have hk1:((k:Int)==0)=false:=by simp;omega
     clear H
     by_cases hbad:(s[k].toNat:Int)<48∨57<(s[k].toNat:Int)
     ·have HR:=Lib.hid (numOf_bad _ (H2.out.symm.trans (rg_bad true v s k hlt hbad)))
      rcases hbad with hbad | hbad
      all_goals
       go_wp2
       go_ret2
       exact ⟨ret_pair2 HR.out,rfl⟩
     ·have hb1:¬ (s[k].toNat:Int)<48:=by omega
      have hb2:¬ 57<(s[k].toNat:Int):=by omega
      have HR:=Lib.hid ((rg_good true v s k hlt hbad).symm.trans H2.out)
      clear hbad
      go_wp2
      all_goals
       go_round
       case rel=>exact ⟨k+1,_,by omega,by go_num,rfl,w64_bd _ _ rfl,.inr ⟨by omega,rel_to HR.out (by simp [rd,w64];unfold wrap64;omega)⟩⟩
       case measure=>simp [intOf];omega
    ·have hk':k=s.size:=by omega
     subst hk'
     have HR:=Lib.hid (refG_end true v s (H.out.resolve_left fun h=>by omega).2)
     by_cases heq:Lib.itoa v=s.data.toList
     ·have E:=Lib.hid (show numOf s.data.toList=(v,true) from by rw [←heq];exact numOf_itoa v v0 v1)
      have h1:(Lib.itoa v==s.toList)=true:=by rw [bytes_list];simpa using heq
      go_wp2_with fail
      refine (refPut_any v _ v0 v1).mono ?_
      rintro e w' ⟨rfl,rfl⟩
      go_wp2
      go_ret2
      exact ⟨ret_pair2 E.out,rfl⟩
     ·have E:=Lib.hid (numOf_off s.data.toList v HR.out heq)
      have h1:(Lib.itoa v==s.toList)=false:=by rw [bytes_list];simpa using heq
      go_wp2_with fail
      refine (refPut_any v _ v0 v1).mono ?_
      rintro e w' ⟨rfl,rfl⟩
      go_wp2
      go_ret2
      exact ⟨ret_pair2 E.out,rfl⟩
  ·replace hneg:((s[0].toNat:Int)==45)=false:=by simpa using hneg
   have HG:=Lib.hid (refG_plain s h0 hneg)
   go_enter Tryz.func67,Tryz.ntmps67
   go_wp2
   go_loop [4,5,6] (fun n i _=>∃ (k:Nat) (v:Int),k≤s.size∧i=.int .i64 k∧n=.int .i64 v∧(-9223372036854775808≤v∧v≤9223372036854775807)∧Hid (rg false v (s.data.toList.drop k)=refG s.data.toList)) (fun _ i _=>s.size-(intOf i).toNat)
   case atStart=>exact ⟨0,0,Nat.zero_le _,rfl,rfl,⟨by decide,by decide⟩,HG.out⟩
   case round =>
    obtain ⟨k,v,hk,rfl,rfl,⟨v0,v1⟩,H⟩:=hrel
    by_cases hlt:k<s.size
    ·have H2:=Lib.hid H.out
     clear H
     by_cases hk0:k=0
     ·subst hk0
      by_cases hbad:(s[0].toNat:Int)<48∨57<(s[0].toNat:Int)
      ·have HR:=Lib.hid (numOf_bad _ (H2.out.symm.trans (rg_bad false v s 0 hlt hbad)))
       rcases hbad with hbad | hbad
       all_goals
        go_wp2
        go_ret2
        exact ⟨ret_pair2 HR.out,rfl⟩
      ·have hb1:¬ (s[0].toNat:Int)<48:=by omega
       have hb2:¬ 57<(s[0].toNat:Int):=by omega
       have HR:=Lib.hid ((rg_good false v s 0 hlt hbad).symm.trans H2.out)
       clear hbad
       go_wp2
       all_goals
        go_round
        case rel=>exact ⟨0+1,_,by omega,by go_num,rfl,w64_bd _ _ rfl,rel_to HR.out (by simp [rd,w64];unfold wrap64;omega)⟩
        case measure=>simp [intOf];omega
     ·have hk1:((k:Int)==0)=false:=by simp;omega
      by_cases hbad:(s[k].toNat:Int)<48∨57<(s[k].toNat:Int)
      ·have HR:=Lib.hid (numOf_bad _ (H2.out.symm.trans (rg_bad false v s k hlt hbad)))
       rcases hbad with hbad | hbad
       all_goals
        go_wp2
        go_ret2
        exact ⟨ret_pair2 HR.out,rfl⟩
      ·have hb1:¬ (s[k].toNat:Int)<48:=by omega
       have hb2:¬ 57<(s[k].toNat:Int):=by omega
       have HR:=Lib.hid ((rg_good false v s k hlt hbad).symm.trans H2.out)
       clear hbad
       go_wp2
       all_goals
        go_round
        case rel=>exact ⟨k+1,_,by omega,by go_num,rfl,w64_bd _ _ rfl,rel_to HR.out (by simp [rd,w64];unfold wrap64;omega)⟩
        case measure=>simp [intOf];omega
    ·have hk':k=s.size:=by omega
     subst hk'
     have HR:=Lib.hid (refG_end false v s H.out)
     by_cases heq:Lib.itoa v=s.data.toList
     ·have E:=Lib.hid (show numOf s.data.toList=(v,true) from by rw [←heq];exact numOf_itoa v v0 v1)
      have h1:(Lib.itoa v==s.toList)=true:=by rw [bytes_list];simpa using heq
      go_wp2_with fail
      refine (refPut_any v _ v0 v1).mono ?_
      rintro e w' ⟨rfl,rfl⟩
      go_wp2
      go_ret2
      exact ⟨ret_pair2 E.out,rfl⟩
     ·have E:=Lib.hid (numOf_off s.data.toList v HR.out heq)
      have h1:(Lib.itoa v==s.toList)=false:=by rw [bytes_list];simpa using heq
      go_wp2_with fail
      refine (refPut_any v _ v0 v1).mono ?_
      rintro e w' ⟨rfl,rfl⟩
      go_wp2
      go_ret2
      exact ⟨ret_pair2 E.out,rfl⟩
end Go.Proofs.YtbbjileignefbaaGreatDoor
namespace Go.Proofs.YtbbjileignefbaaGreatDoor
open Go.Shelf
open Go.RowKit DecMath
def Good (w:World):Prop :=
 Tab w ∧
 (∃ tp p, w.var? Tryz.prog "strconv.ErrSyntax" = some #[.iface tp p]) ∧ (∃ tp p, w.var? Tryz.prog "strconv.ErrRange" = some #[.iface tp p])
theorem Good.below {w w':World} (h:Good w) (hb:Below w.heap.size w w'):Good w':=by
 obtain ⟨a,⟨t1,p1,b⟩,t2,p2,c⟩:=h
 exact ⟨var_below a hb,⟨t1,p1,var_below b hb⟩,t2,p2,var_below c hb⟩
theorem numOf_ok (l:List UInt8) (v:Int) (h:Lib.atoiAll l=.ok v) (e:Lib.itoa v=l):numOf l=(v,true):=by simp [numOf,h,e]
theorem numOf_no (l:List UInt8) (v:Int) (h:Lib.atoiAll l=.ok v) (e:¬ Lib.itoa v=l):numOf l=(0,false):=by simp [numOf,h,e]
theorem numOf_else (l:List UInt8) (h:∀ v,Lib.atoiAll l≠.ok v):numOf l=(0,false):=by
 unfold numOf
 split
 ·rename_i v hv
  exact absurd hv (h v)
 ·rfl
theorem atoi_else (s : ByteArray) (hlim : s.size ≤ 281474976710656) (h1 : ∀ v, Lib.atoiAll s.data.toList ≠ .ok v) (h2 : Lib.atoiAll s.data.toList ≠ .range) (tp : TypeId) (p : Value) (w : World) (hvar : w.var? Tryz.prog "strconv.ErrSyntax" = some #[.iface tp p]) :
  Calls Tryz.prog 112 #[.string s] w fun e w'=>∃ N,e=.returned (.tuple #[.int .i64 0,.iface 185 (.pointer (some ⟨N,0,none⟩))])∧Below w.heap.size w w':=by
 cases h:Lib.atoiAll s.data.toList with
 | ok v=>exact absurd h (h1 v)
 | range=>exact absurd h h2
 | _ =>
  refine (Any.strconv_Atoi_syntax_var Tryz.laysC172 s hlim h tp p w hvar).mono ?_
  rintro e w' ⟨N,he,-,-,hb⟩
  exact ⟨N,he,hb⟩
set_option maxRecDepth 100000 in
theorem decGet_any (s:ByteArray) (w:World) (hs:s.size≤9223372036854775807) (hg:Good w) :
  Calls Tryz.prog 101 #[.string s] w fun e w'=>e=.returned (.tuple #[.int .i64 (numOf s.data.toList).1,.bool (numOf s.data.toList).2])∧Below w.heap.size w w':=by
 by_cases hlen:20<s.size
 ·have H:=Lib.hid (numOf_len s.data.toList (by right;simpa using hlen))
  clear hg
  go_enter Tryz.func101,Tryz.ntmps101
  go_wp2
  go_ret2
  exact ⟨ret_pair2 H.out,Below.refl _ _⟩
 ·have G:=Lib.hid hg
  clear hg
  cases h:Lib.atoiAll s.data.toList with
  | ok v =>
   have hv:=Lib.atoiAll_bounds h
   obtain ⟨v0,v1⟩:=hv
   by_cases heq:Lib.itoa v=s.data.toList
   ·have E:=Lib.hid (numOf_ok _ v h heq)
    have h1:(Lib.itoa v==s.toList)=true:=by rw [bytes_list];simpa using heq
    have hA:=Lib.hid h
    clear h heq
    go_enter Tryz.func101,Tryz.ntmps101
    go_wp2_with fail
    refine (Tryz.strconv_Atoi_ok s (by omega) v hA.out _).mono ?_
    rintro e w1 ⟨rfl,hw⟩
    have hb:Hid (Below w.heap.size w w1):=by
     rcases hw with rfl | ⟨t,rfl⟩
     ·exact Below.refl _ _
     ·exact Lib.bytesWorld_below _ _ _
    clear hw
    go_wp2_with fail
    refine (decPut_any v _ v0 v1 (G.out.below hb.out).1).mono ?_
    rintro e w2 ⟨rfl,hb2⟩
    go_wp2
    go_ret2
    exact ⟨ret_pair2 E.out,up_trans hb.out hb2⟩
   ·have E:=Lib.hid (numOf_no _ v h heq)
    have h1:(Lib.itoa v==s.toList)=false:=by rw [bytes_list];simpa using heq
    have hA:=Lib.hid h
    clear h heq
    go_enter Tryz.func101,Tryz.ntmps101
    go_wp2_with fail
    refine (Tryz.strconv_Atoi_ok s (by omega) v hA.out _).mono ?_
    rintro e w1 ⟨rfl,hw⟩
    have hb:Hid (Below w.heap.size w w1):=by
     rcases hw with rfl | ⟨t,rfl⟩
     ·exact Below.refl _ _
     ·exact Lib.bytesWorld_below _ _ _
    clear hw
    go_wp2_with fail
    refine (decPut_any v _ v0 v1 (G.out.below hb.out).1).mono ?_
    rintro e w2 ⟨rfl,hb2⟩
    go_wp2
    go_ret2
    exact ⟨ret_pair2 E.out,up_trans hb.out hb2⟩
  | range =>
   have E:=Lib.hid (numOf_else _ (by intro v;rw [h];intro x;cases x))
   obtain ⟨tp,p,hvar⟩:=G.out.2.2
   have hA:=Lib.hid (And.intro h hvar)
   clear h hvar
   go_enter Tryz.func101,Tryz.ntmps101
   go_wp2_with fail
   refine (Tryz.strconv_Atoi_range_var s (by omega) hA.out.1 tp p _ hA.out.2).mono ?_
   rintro e w1 ⟨N,rfl,-,-,hb⟩
   go_wp2
   go_ret2
   exact ⟨ret_pair2 E.out,hb⟩
  | _ =>
   have h1:∀ v,Lib.atoiAll s.data.toList≠.ok v:=by intro v;rw [h];intro x;cases x
   have h2:Lib.atoiAll s.data.toList≠.range:=by rw [h];intro x;cases x
   have E:=Lib.hid (numOf_else _ h1)
   obtain ⟨tp,p,hvar⟩:=G.out.2.1
   have hA:=Lib.hid (And.intro (And.intro h1 h2) hvar)
   clear h hvar h1 h2
   go_enter Tryz.func101,Tryz.ntmps101
   go_wp2_with fail
   refine (atoi_else s (by omega) hA.out.1.1 hA.out.1.2 tp p _ hA.out.2).mono ?_
   rintro e w1 ⟨N,rfl,hb⟩
   go_wp2
   go_ret2
   exact ⟨ret_pair2 E.out,hb⟩
end Go.Proofs.YtbbjileignefbaaGreatDoor
namespace Go.Proofs.YtbbjileignefbaaGreatDoor
open Go.RowKit DecMath
def inOf (l:List UInt8) (lo hi:Int):Int×Bool:=if (numOf l).2=true∧lo≤(numOf l).1∧(numOf l).1≤hi then numOf l else (0,false)
set_option maxRecDepth 100000 in
theorem decWithin_any (s:ByteArray) (lo hi:Int) (w:World) (hs:s.size≤9223372036854775807) (hg:Good w) :
  Calls Tryz.prog 89 #[.string s,.int .i64 lo,.int .i64 hi] w fun e w'=>e=.returned (.tuple #[.int .i64 (inOf s.data.toList lo hi).1,.bool (inOf s.data.toList lo hi).2])∧Below w.heap.size w w':=by
 have K:=decGet_any s w hs hg
 have I:=fun (v:Int) w=>in_any v lo hi w
 have hr:inOf s.data.toList lo hi=if (numOf s.data.toList).2=true∧lo≤(numOf s.data.toList).1∧(numOf s.data.toList).1≤hi then numOf s.data.toList else (0,false):=rfl
 generalize inOf s.data.toList lo hi=r at *
 generalize numOf s.data.toList=p at *
 obtain ⟨v,b⟩:=p
 simp only at K hr
 cases b
 ·have HK:=Lib.hid K
  have E:=Lib.hid (show r=(0,false) from by rw [hr,if_neg (fun h=>by cases h.1)])
  clear K hg I hr
  go_enter Tryz.func89,Tryz.ntmps89
  go_wp2_with fail
  refine HK.out.mono ?_
  rintro e w1 ⟨rfl,hb⟩
  go_wp2
  go_ret2
  exact ⟨ret_pair2 E.out,hb⟩
 ·by_cases hin:lo≤v∧v≤hi
  ·have HK:=Lib.hid K
   have i1:(decide (lo≤v)&&decide (v≤hi))=true:=by simp [hin]
   have I1:=I v
   rw [i1] at I1
   have HI:=Lib.hid I1
   have E:=Lib.hid (show r=(v,true) from by rw [hr,if_pos ⟨rfl,hin⟩])
   clear K hg I i1 I1 hin hr
   go_enter Tryz.func89,Tryz.ntmps89
   go_wp2_with fail
   refine HK.out.mono ?_
   rintro e w1 ⟨rfl,hb⟩
   go_wp2_with fail
   refine (HI.out _).mono ?_
   rintro e w2 ⟨rfl,rfl⟩
   go_wp2
   go_ret2
   exact ⟨ret_pair2 E.out,hb⟩
  ·have HK:=Lib.hid K
   have i1:(decide (lo≤v)&&decide (v≤hi))=false:=by simp;omega
   have I1:=I v
   rw [i1] at I1
   have HI:=Lib.hid I1
   have E:=Lib.hid (show r=(0,false) from by rw [hr,if_neg (fun h=>hin h.2)])
   clear K hg I i1 I1 hin hr
   go_enter Tryz.func89,Tryz.ntmps89
   go_wp2_with fail
   refine HK.out.mono ?_
   rintro e w1 ⟨rfl,hb⟩
   go_wp2_with fail
   refine (HI.out _).mono ?_
   rintro e w2 ⟨rfl,rfl⟩
   go_wp2
   go_ret2
   exact ⟨ret_pair2 E.out,hb⟩
end Go.Proofs.YtbbjileignefbaaGreatDoor
namespace Go.Proofs.YtbbjileignefbaaGreatDoor
open Go.RowKit
def tab (t:Int):List ByteArray :=
 if t=1 then [⟨#[115,97,100,100,108,101]⟩,⟨#[112,101,114,102,101,99,116]⟩,⟨#[115,116,97,99,107]⟩,⟨#[99,111,109,101,103,111]⟩]
 else if t=2 then [⟨#[115,104,101,101,116,119,105,115,101]⟩,⟨#[112,101,114,102,101,99,116,105,110,103]⟩,⟨#[116,117,114,110]⟩,⟨#[116,117,109,98,108,101]⟩]
 else if t=3 then [⟨#[76]⟩,⟨#[82]⟩,⟨#[66]⟩,⟨#[84]⟩]
 else if t=4 then [⟨#[112,97,103,101]⟩,⟨#[99,114,111,112]⟩,⟨#[99,114,101,97,115,101]⟩,⟨#[99,101,110,116,114,101]⟩,⟨#[115,116,97,105,114]⟩,⟨#[98,97,114]⟩,⟨#[110,111,116,101]⟩]
 else []
def InG (w:World) (g:Nat) (l:List ByteArray):Prop:=∀ i p,l[i]?=some p→w.cell? ⟨g,i,none⟩=some (.string p)
theorem InG.up {w w':World} {g:Nat} {l:List ByteArray} (h:InG w g l) (hb:Below w.heap.size w w'):InG w' g l:=fun i p hp=>bl_cell hb (h i p hp)
def Strs (w:World) (v:Value) (m:Nat) (l:List ByteArray):Prop:=l.length=m∧((m=0∧v=.slice none 0 0)∨∃ g,0<m∧v=.slice (some ⟨g,0,none⟩) m m∧InG w g l)
theorem Strs.up {w w':World} {v:Value} {m:Nat} {l:List ByteArray} (h:Strs w v m l) (hb:Below w.heap.size w w'):Strs w' v m l:=by
 obtain ⟨h0,h1 | ⟨g,h1,h2,h3⟩⟩:=h
 ·exact ⟨h0,.inl h1⟩
 ·exact ⟨h0,.inr ⟨g,h1,h2,h3.up hb⟩⟩
theorem inG_cells (w:World) (l:List ByteArray) (T:TypeId):InG (w.alloc (.cells (l.map Value.string).toArray T)) w.heap.size l:=by
 intro i p hp
 simp [go_sem,hp]
theorem tab_none {t:Int} (h1:t≠1) (h2:t≠2) (h3:t≠3) (h4:t≠4):tab t=[]:=by unfold tab;rw [if_neg h1,if_neg h2,if_neg h3,if_neg h4]
theorem wordsAll_any (t:Int) (w:World) :
  Calls Tryz.prog 114 #[.int .i64 t] w fun e w'=>∃ v,e=.returned v∧Strs w' v (tab t).length (tab t)∧Below w.heap.size w w':=by
 by_cases h1:t=1
 ·subst h1
  go_enter Tryz.func114,Tryz.ntmps114
  go_wp2
  go_ret
  exact ⟨_,rfl,⟨rfl,.inr ⟨w.heap.size,by decide,rfl,inG_cells w (tab 1) _⟩⟩,up_alloc (Below.refl _ _) _⟩
 by_cases h2:t=2
 ·subst h2
  go_enter Tryz.func114,Tryz.ntmps114
  go_wp2
  go_ret
  exact ⟨_,rfl,⟨rfl,.inr ⟨w.heap.size,by decide,rfl,inG_cells w (tab 2) _⟩⟩,up_alloc (Below.refl _ _) _⟩
 by_cases h3:t=3
 ·subst h3
  go_enter Tryz.func114,Tryz.ntmps114
  go_wp2
  go_ret
  exact ⟨_,rfl,⟨rfl,.inr ⟨w.heap.size,by decide,rfl,inG_cells w (tab 3) _⟩⟩,up_alloc (Below.refl _ _) _⟩
 by_cases h4:t=4
 ·subst h4
  go_enter Tryz.func114,Tryz.ntmps114
  go_wp2
  go_ret
  exact ⟨_,rfl,⟨rfl,.inr ⟨w.heap.size,by decide,rfl,inG_cells w (tab 4) _⟩⟩,up_alloc (Below.refl _ _) _⟩
 rw [tab_none h1 h2 h3 h4]
 have e1:(t==1)=false:=by simpa using h1
 have e2:(t==2)=false:=by simpa using h2
 have e3:(t==3)=false:=by simpa using h3
 have e4:(t==4)=false:=by simpa using h4
 go_enter Tryz.func114,Tryz.ntmps114
 go_wp2
 go_ret
 exact ⟨_,rfl,⟨rfl,.inl ⟨rfl,rfl⟩⟩,Below.refl _ _⟩
def WordsGetRel (k:Nat) (w:World) (x:Value) (wr:World):Prop:=∃ j:Nat,j≤k∧x=.int .i64 (j:Int)∧wr=w
theorem toList_ne {a b:ByteArray} (h:a≠b):(a.toList==b.toList)=false:=by
 rw [beq_eq_false_iff_ne]
 intro e
 rw [ByteArray.toList_eq,ByteArray.toList_eq] at e
 apply h
 obtain ⟨⟨a⟩⟩:=a
 obtain ⟨⟨b⟩⟩:=b
 simpa using e
theorem toList_some {s:ByteArray} (h:s≠⟨#[]⟩):(s.toList==[])=false:=by
 have:=toList_ne h
 simpa [ByteArray.toList_eq] using this
theorem wordsGet_core (t:Int) (s:ByteArray) (l:List ByteArray) (hl:l.length≤1000000) (w:World) (k:Nat) (hk:l[k]?=some s) (hf:∀ j b,j<k→l[j]?=some b→b≠s)
  (KA:∀ w,Calls Tryz.prog 114 #[.int .i64 t] w fun e w'=>∃ v,e=.returned v∧Strs w' v l.length l∧Below w.heap.size w w') :
  Calls Tryz.prog 102 #[.int .i64 t,.string s] w fun e w'=>e=.returned (.tuple #[.int .i64 ((k:Int)+1),.bool true])∧Below w.heap.size w w':=by
 have hkl:k<l.length:=(List.getElem?_eq_some_iff.1 hk).1
 obtain ⟨m,hm⟩:∃ m,l.length=m:=⟨_,rfl⟩
 rw [hm] at KA hl hkl
 have HA:=Lib.hid KA
 have HM:=Lib.hid hm
 clear KA hm
 go_enter Tryz.func102,Tryz.ntmps102
 go_wp2_with fail
 refine (HA.out _).mono ?_
 rintro e w1 ⟨v,rfl,⟨_,hs⟩,hb⟩
 rcases hs with ⟨_,rfl⟩ | ⟨g,h0,rfl,hc⟩
 ·omega
 go_wp2_with fail
 go_loopw [11] (fun x wr=>WordsGetRel k w1 x wr) (fun x _=>m-(intOf x).toNat)
 case atStart=>exact ⟨0,by omega,by go_num,rfl⟩
 case round =>
  obtain ⟨j,hj,rfl,rfl⟩:=hrel
  have jm:(j:Int)<(m:Int):=by omega
  by_cases hjk:j=k
  ·subst hjk
   have c1:=hc j s hk
   clear hc hf
   go_wp2
   go_ret2
   exact ⟨rfl,hb⟩
  ·have hjl:j<l.length:=by have:=HM.out;omega
   have hb0:l[j]?=some l[j]:=by simp [hjl]
   generalize l[j]=b at *
   have hn:=hf j b (by omega) hb0
   have c1:=hc j b hb0
   have h1:=toList_ne hn
   clear hb0 hn hc hf
   go_wp2_with fail
   go_roundw
   case rel=>exact ⟨j+1,by omega,by go_num,rfl⟩
   case measure=>simp [intOf];omega
theorem wordsGet_none (t:Int) (s:ByteArray) (l:List ByteArray) (hl:l.length≤1000000) (w:World) (hf:∀ (j:Nat) (b:ByteArray),l[j]?=some b→b≠s)
  (KA:∀ w,Calls Tryz.prog 114 #[.int .i64 t] w fun e w'=>∃ v,e=.returned v∧Strs w' v l.length l∧Below w.heap.size w w') :
  Calls Tryz.prog 102 #[.int .i64 t,.string s] w fun e w'=>e=.returned (.tuple #[.int .i64 0,.bool false])∧Below w.heap.size w w':=by
 obtain ⟨m,hm⟩:∃ m,l.length=m:=⟨_,rfl⟩
 rw [hm] at KA hl
 have HA:=Lib.hid KA
 have HM:=Lib.hid hm
 clear KA hm
 go_enter Tryz.func102,Tryz.ntmps102
 go_wp2_with fail
 refine (HA.out _).mono ?_
 rintro e w1 ⟨v,rfl,⟨_,hs⟩,hb⟩
 rcases hs with ⟨rfl,rfl⟩ | ⟨g,h0,rfl,hc⟩
 ·go_wp2_with fail
  go_loopw [11] (fun x wr=>WordsGetRel 0 w1 x wr) (fun x _=>0)
  case atStart=>exact ⟨0,by omega,by go_num,rfl⟩
  case round =>
   obtain ⟨j,hj,rfl,rfl⟩:=hrel
   obtain rfl:j=0:=by omega
   go_wp2
   go_ret2
   exact ⟨rfl,hb⟩
 go_wp2_with fail
 go_loopw [11] (fun x wr=>WordsGetRel m w1 x wr) (fun x _=>m-(intOf x).toNat)
 case atStart=>exact ⟨0,by omega,by go_num,rfl⟩
 case round =>
  obtain ⟨j,hj,rfl,rfl⟩:=hrel
  by_cases hjm:j=m
  ·subst hjm
   clear hc hf
   go_wp2
   go_ret2
   exact ⟨rfl,hb⟩
  ·have jm:(j:Int)<(m:Int):=by omega
   have hjl:j<l.length:=by have:=HM.out;omega
   have hb0:l[j]?=some l[j]:=by simp [hjl]
   generalize l[j]=b at *
   have hn:=hf j b hb0
   have c1:=hc j b hb0
   have h1:=toList_ne hn
   clear hb0 hn hc hf
   go_wp2_with fail
   go_roundw
   case rel=>exact ⟨j+1,by omega,by go_num,rfl⟩
   case measure=>simp [intOf];omega
theorem tab_short (t:Int):(tab t).length≤7:=by unfold tab;(repeat' split)<;>decide
theorem tab_nodup (t:Int):(tab t).Nodup:=by unfold tab;(repeat' split)<;>decide +kernel
theorem tab_first {t:Int} {k:Nat} {s:ByteArray} (hk:(tab t)[k]?=some s) (j:Nat) (b:ByteArray) (hj:j<k) (hb:(tab t)[j]?=some b):b≠s:=by
 rintro rfl
 have:=(List.getElem?_inj (List.getElem?_eq_some_iff.1 hb).1 (tab_nodup t)).1 (hb.trans hk.symm)
 omega
theorem wordsGet_yes {t:Int} {k:Nat} {s:ByteArray} (hk:(tab t)[k]?=some s) (w:World) :
  Calls Tryz.prog 102 #[.int .i64 t,.string s] w fun e w'=>e=.returned (.tuple #[.int .i64 ((k:Int)+1),.bool true])∧Below w.heap.size w w' :=
 wordsGet_core t s (tab t) (by have:=tab_short t;omega) w k hk (tab_first hk) (fun w=>wordsAll_any t w)
theorem wordsGet_no {t:Int} {s:ByteArray} (hs:s∉tab t) (w:World) :
  Calls Tryz.prog 102 #[.int .i64 t,.string s] w fun e w'=>e=.returned (.tuple #[.int .i64 0,.bool false])∧Below w.heap.size w w' :=
 wordsGet_none t s (tab t) (by have:=tab_short t;omega) w (fun j b hb e=>hs (e ▸ List.mem_of_getElem? hb)) (fun w=>wordsAll_any t w)
theorem Tryz.infoText:(Tryz.prog.info? 9).map (fun i=>(i.zero,i.size,i.bytes))=some (some (.string ⟨#[]⟩),1,16):=by kernel_rfl
def tx (l:List UInt8):ByteArray:=⟨l.toArray⟩
theorem tx_data (s:ByteArray):tx s.data.toList=s:=by simp [tx]
theorem data_tx (l:List UInt8):(tx l).data.toList=l:=by simp [tx]
theorem tx_size (l:List UInt8):(tx l).size=l.length:=by simp [tx,ByteArray.size]
theorem tx_append (a b:List UInt8):tx a++tx b=tx (a++b):=ByteArray.mk_append_mk a b
theorem tx_toList (l:List UInt8):(tx l).toList=l:=by rw [ByteArray.toList_eq,data_tx]
theorem tx_same (a b:List UInt8):((tx a).toList==(tx b).toList)=decide (a=b):=by rw [tx_toList,tx_toList,Bool.eq_iff_iff];simp
theorem tx_inj {a b:List UInt8} (h:tx a=tx b):a=b:=by rw [←data_tx a,h,data_tx]
theorem size_data (s:ByteArray):s.data.toList.length=s.size:=Array.length_toList
theorem tx_extract (s:ByteArray) (i j:Nat):s.extract i j=tx ((s.data.toList.take j).drop i):=by
 apply ByteArray.ext
 apply Array.toList_inj.1
 simp [tx,List.drop_take]
theorem drop_octet {s:ByteArray} {k:Nat} (h:k<s.size):s.data.toList.drop k=s[k] :: s.data.toList.drop (k+1):=by
 rw [List.drop_eq_getElem_cons (by rw [size_data];exact h)]
 rfl
theorem take_octet {s:ByteArray} {k:Nat} (h:k<s.size):s.data.toList.take (k+1)=s.data.toList.take k++[s[k]]:=by
 rw [List.take_succ_eq_append_getElem (by rw [size_data];exact h)]
 rfl
theorem cur_octet {s:ByteArray} {f k:Nat} (hf:f≤k) (h:k<s.size):(s.data.toList.take (k+1)).drop f=(s.data.toList.take k).drop f++[s[k]]:=by
 rw [take_octet h,List.drop_append_of_le_length (by rw [List.length_take,size_data];omega)]
theorem cur_none (s:ByteArray) (k:Nat):(s.data.toList.take k).drop k=[]:=List.drop_eq_nil_of_le (by rw [List.length_take];omega)
theorem oct_eq (c:UInt8) (n:UInt8):((c.toNat:Int)==(n.toNat:Int))=(c==n):=by
 rw [Bool.eq_iff_iff]
 simp [←UInt8.toNat_inj]
 omega
def TxS (w:World) (v:Value) (ls:List (List UInt8)):Prop :=
 ∃ a c,v=.slice a ls.length c∧(ls=[]∨∃ g,a=some ⟨g,0,none⟩∧(∀ i l,ls[i]?=some l→w.cell? ⟨g,i,none⟩=some (.string (tx l)))∧ls.length≤c∧c≤maxLen)
theorem TxS.up {w w':World} {v:Value} {ls:List (List UInt8)} (h:TxS w v ls) (hb:Below w.heap.size w w'):TxS w' v ls:=by
 obtain ⟨a,c,h1,h2 | ⟨g,h2,h3,h4⟩⟩:=h
 ·exact ⟨a,c,h1,.inl h2⟩
 ·exact ⟨a,c,h1,.inr ⟨g,h2,fun i l hi=>bl_cell hb (h3 i l hi),h4⟩⟩
theorem TxS.nil (w:World):TxS w (.slice none 0 0) []:=⟨none,0,rfl,.inl rfl⟩
theorem TxS.cell {w:World} {a:Option Addr} {n c:Nat} {ls:List (List UInt8)} (h:TxS w (.slice a n c) ls) (h0:0<n):ls.length=n∧∃ g,a=some ⟨g,0,none⟩∧∀ i l,ls[i]?=some l→w.cell? ⟨g,i,none⟩=some (.string (tx l)):=by
 obtain ⟨a',c',h1,h2⟩:=h
 injection h1 with e1 e2 e3
 subst e1 e2
 refine ⟨rfl,?_⟩
 rcases h2 with rfl | ⟨g,h2,h3,_⟩
 ·simp at h0
 ·exact ⟨g,h2,h3⟩
def rowT (w:World) (base:Nat) (v:Value) (ls:List (List UInt8)):Prop:=w.ownsRow base 9 1 v ls.length (ls.map fun l=>.string (tx l))
theorem rowT_nil (w:World) (base:Nat):rowT w base (.slice none 0 0) []:=World.ownsRow_nil _ _ _ _
theorem own_kept {w w':World} {base:Nat} {e:TypeId} {z n:Nat} {v:Value} {xs:List Value} (h:w.ownsRow base e z v n xs) (hb:∀ k,base≤k→k<w.heap.size→w'.heap[k]?=w.heap[k]?):w'.ownsRow base e z v n xs:=by
 obtain ⟨h0,h | ⟨g,cap,cur,h1,h2,h3,h4⟩⟩:=h
 ·exact ⟨h0,.inl h⟩
 ·exact ⟨h0,.inr ⟨g,cap,cur,h1,h2,(hb g h2 (Array.getElem?_eq_some_iff.1 h3).1).trans h3,h4⟩⟩
theorem rowT.kept {w w':World} {base:Nat} {v:Value} {ls:List (List UInt8)} (h:rowT w base v ls) (hb:∀ k,base≤k→k<w.heap.size→w'.heap[k]?=w.heap[k]?):rowT w' base v ls:=own_kept h hb
theorem rowT.up {w w':World} {base:Nat} {v:Value} {ls:List (List UInt8)} (h:rowT w base v ls) (hb:Below w.heap.size w w'):rowT w' base v ls:=h.kept fun k _ hk=>hb.block k hk
theorem rowT.texts {w:World} {base:Nat} {v:Value} {ls:List (List UInt8)} (h:rowT w base v ls):TxS w v ls:=by
 rcases h.2 with ⟨rfl,h0⟩ | ⟨g,cap,cur,rfl,hb,hg,hcap,hmax,hsz,htk⟩
 ·exact ⟨none,0,by rw [h0],.inl (List.eq_nil_of_length_eq_zero h0)⟩
 ·refine ⟨some ⟨g,0,none⟩,cap,rfl,.inr ⟨g,rfl,fun i l hi=>?_,by omega,by omega⟩⟩
  have:=h.cells (g:=g) rfl i (.string (tx l)) (by simp [hi])
  rwa [show (⟨g,0,none⟩:Addr).add i=⟨g,i,none⟩ by unfold Addr.add;split<;>simp_all] at this
theorem wpList_append_text {u:World} {ops:Array Oper} {rest:List Oper} {o:Oper} {a:Act} {Q:Exit→Act→World→Prop} (hgd:o.guard=none) (s x:Operand)
  (ho:o.op=.call { callee:=.builtin .append,args:=#[s,x],argTypes:=#[27,27] })
  (base:Nat) (v:Value) (ls:List (List UInt8)) (hs:a.eval s=v) (hown:rowT u base v ls) (hbase:base≤u.heap.size)
  (p:ByteArray) (l:List UInt8) (hp:p=tx l) (hx:a.eval x=.slice (some ⟨u.heap.size,0,none⟩) 1 1) (hl:ls.length≤1000000)
  (h:∀ v' w',rowT w' base v' (ls++[l])→Below base u w'→wpList Tryz.prog ops Q rest (a.put o.dst v') w'):wpList Tryz.prog ops Q (o :: rest) a (u.alloc (.cells #[.string p] 9)):=by
 subst hp
 obtain ⟨i0,hi,hz0,hz1,hz2⟩:=info_parts Tryz.infoText
 refine wpList_append_lies _ hgd s x 27 ho base 9 i0 _ 1 16 Tryz.underlying27 hi hz0 hz1 hz2 rfl (by omega) v ls.length _ hs (World.ownsRow.alloc hown _) ⟨u.heap.size,0,none⟩ 1 1 [.string (tx l)] hx rfl ?_ ?_ (by omega) (by unfold maxLen;omega) (by omega) (by simp;omega) _ rfl ?_
 ·exact World.news_of_block (cs:=#[.string (tx l)]) (t:=9) (fr:=(0,0)) (heap_alloc_new u _)
 ·intro y hy;simp at hy;subst hy;rfl
 intro g cap w1 hown1 hgrow hat hlt
 refine h _ w1 ?_ (Below.grown ((Below.refl _ _).alloc hbase _) hgrow (by simp;omega) (fun k hk=>(hown.lt k hk).1))
 unfold rowT
 rw [List.length_append,List.map_append]
 exact hown1
def encO (l:List UInt8):List Value:=l.map fun c=>.int .u8 (c.toNat:Int)
def rowB (w:World) (base:Nat) (v:Value) (l:List UInt8):Prop:=w.ownsRow base 5 1 v l.length (encO l)
theorem rowB.kept {w w':World} {base:Nat} {v:Value} {l:List UInt8} (h:rowB w base v l) (hb:∀ k,base≤k→k<w.heap.size→w'.heap[k]?=w.heap[k]?):rowB w' base v l:=own_kept h hb
theorem rowB.up {w w':World} {base:Nat} {v:Value} {l:List UInt8} (h:rowB w base v l) (hb:Below w.heap.size w w'):rowB w' base v l:=h.kept fun k _ hk=>hb.block k hk
end Go.Proofs.YtbbjileignefbaaGreatDoor
namespace Go.Proofs.YtbbjileignefbaaGreatDoor
open Go.RowKit DecMath
def sideO (c:UInt8):Int:=if c=76 then 1 else if c=82 then 2 else if c=66 then 3 else if c=84 then 4 else 0
def sideC (d:Int):UInt8:=if d=1 then 76 else if d=2 then 82 else if d=3 then 66 else 84
theorem sideO_C {d:Int} (h0:1≤d) (h1:d≤4):sideO (sideC d)=d:=by
 obtain rfl | rfl | rfl | rfl:d=1∨d=2∨d=3∨d=4:=by omega
 all_goals decide
theorem sideO_bounds (c:UInt8):0≤sideO c∧sideO c≤4:=by unfold sideO;(repeat' split)<;>omega
def stripU (r:List UInt8):List UInt8×Bool:=if r.getLast?=some 117 then (r.dropLast,true) else (r,false)
theorem stripU_trim (r:List UInt8):Lib.trimSuffix r [117]=(stripU r).1∧Lib.hasSuffix r [117]=(stripU r).2:=by
 have h:Lib.hasSuffix r [117]=decide (r.getLast?=some 117):=by
  unfold Lib.hasSuffix
  rw [Bool.eq_iff_iff,List.isSuffixOf_iff_suffix,decide_eq_true_eq]
  constructor
  ·rintro ⟨a,rfl⟩;simp
  ·intro h
   obtain ⟨a,rfl⟩:=List.getLast?_eq_some_iff.1 h
   exact ⟨a,rfl⟩
 unfold Lib.trimSuffix stripU
 rw [h]
 by_cases e:r.getLast?=some 117
 ·rw [if_pos (by simpa using e),if_pos e]
  exact ⟨by rw [List.dropLast_eq_take];rfl,by simpa using e⟩
 ·rw [if_neg (by simpa using e),if_neg e]
  exact ⟨rfl,by simpa using e⟩
def getS:List UInt8→Sp×Bool
 | []=>(⟨0,0,false⟩,false)
 | c :: r=>if sideO c≠0∧(inOf (stripU r).1 1 64).2=true then (⟨sideO c,(inOf (stripU r).1 1 64).1,(stripU r).2⟩,true) else (⟨0,0,false⟩,false)
def textS (p:Sp):List UInt8:=sideC p.d :: (Lib.itoa p.n++if p.u=true then [117] else [])
theorem inOf_itoa (n lo hi:Int) (n0:-9223372036854775808≤n) (n1:n≤9223372036854775807) (h0:lo≤n) (h1:n≤hi):inOf (Lib.itoa n) lo hi=(n,true):=by
 unfold inOf
 rw [numOf_itoa n n0 n1,if_pos ⟨rfl,h0,h1⟩]
theorem itoa_last (n:Int) (n0:0≤n):(Lib.itoa n).getLast?≠some 117:=by
 unfold Lib.itoa
 rw [if_neg (by omega)]
 intro h
 have:=digits_each n.toNat 117 (List.mem_of_getLast? h)
 revert this
 decide
theorem stripU_text (n:Int) (n0:0≤n) (u:Bool):stripU (Lib.itoa n++if u=true then [117] else [])=(Lib.itoa n,u):=by
 cases u
 ·simp only [Bool.false_eq_true,if_false,List.append_nil]
  unfold stripU
  rw [if_neg (itoa_last n n0)]
 ·simp [stripU]
theorem getS_text (p:Sp) (h:rightB p.d p.n=true):getS (textS p)=(p,true):=by
 obtain ⟨⟨d0,d1⟩,n0,n1⟩:=rightB_true h
 obtain ⟨d,n,u⟩:=p
 simp only at d0 d1 n0 n1
 simp only [textS,getS,stripU_text n (by omega) u,sideO_C d0 d1,inOf_itoa n 1 64 (by omega) (by omega) n0 n1]
 rw [if_pos ⟨by omega,trivial⟩]
end Go.Proofs.YtbbjileignefbaaGreatDoor
namespace Go.Proofs.YtbbjileignefbaaGreatDoor
def seenB (c:UInt8):Bool:=decide (32≤c.toNat)&&decide (c.toNat≤126)
def blankB (c:UInt8):Bool:=c==32 || c==9
def addF (out:List (List UInt8)) (cur:List UInt8):List (List UInt8):=if cur=[] then out else out++[cur]
theorem addF_nil (out:List (List UInt8)):addF out []=out:=if_pos rfl
theorem addF_some {out:List (List UInt8)} {cur:List UInt8} (h:cur≠[]):addF out cur=out++[cur]:=if_neg h
theorem addF_length (out:List (List UInt8)) (cur:List UInt8):(addF out cur).length≤out.length+1:=by unfold addF;split<;>simp
def fieldsM:List UInt8→List (List UInt8)→List UInt8→Bool→Bool→Option (List (List UInt8))
 | [],out,cur,wi,_=>if wi then none else some (addF out cur)
 | c :: r,out,cur,wi,fr =>
  if wi then (if seenB c then fieldsM r out (cur++[c]) (fr || c != 34) (!fr&&c==92) else none)
  else if blankB c then fieldsM r (addF out cur) [] false false
  else if c==35 then some (addF out cur)
  else if seenB c then fieldsM r out (cur++[c]) (c==34) false
  else none
def fieldsL (s:List UInt8):Option (List (List UInt8)):=fieldsM s [] [] false false
theorem f_end (out:List (List UInt8)) (cur:List UInt8) (fr:Bool):fieldsM [] out cur false fr=some (addF out cur):=by simp [fieldsM]
theorem f_open (out:List (List UInt8)) (cur:List UInt8) (fr:Bool):fieldsM [] out cur true fr=none:=by simp [fieldsM]
theorem f_in {c:UInt8} (r:List UInt8) (out:List (List UInt8)) (cur:List UInt8) (fr:Bool) (h:seenB c=true):fieldsM (c :: r) out cur true fr=fieldsM r out (cur++[c]) (fr || c != 34) (!fr&&c==92):=by simp [fieldsM,h]
theorem f_in_bad {c:UInt8} (r:List UInt8) (out:List (List UInt8)) (cur:List UInt8) (fr:Bool) (h:seenB c=false):fieldsM (c :: r) out cur true fr=none:=by simp [fieldsM,h]
theorem f_blank {c:UInt8} (r:List UInt8) (out:List (List UInt8)) (cur:List UInt8) (fr:Bool) (h:blankB c=true):fieldsM (c :: r) out cur false fr=fieldsM r (addF out cur) [] false false:=by simp [fieldsM,h]
theorem f_stop (r:List UInt8) (out:List (List UInt8)) (cur:List UInt8) (fr:Bool):fieldsM (35 :: r) out cur false fr=some (addF out cur):=by
 have:blankB 35=false:=by decide
 simp [fieldsM,this]
theorem f_out {c:UInt8} (r:List UInt8) (out:List (List UInt8)) (cur:List UInt8) (fr:Bool) (h1:blankB c=false) (h2:c≠35) (h:seenB c=true):fieldsM (c :: r) out cur false fr=fieldsM r out (cur++[c]) (c==34) false:=by simp [fieldsM,h,h1,h2]
theorem f_out_bad {c:UInt8} (r:List UInt8) (out:List (List UInt8)) (cur:List UInt8) (fr:Bool) (h1:blankB c=false) (h2:c≠35) (h:seenB c=false):fieldsM (c :: r) out cur false fr=none:=by simp [fieldsM,h,h1,h2]
theorem fieldsM_length (s:List UInt8):∀ (out:List (List UInt8)) (cur:List UInt8) (wi fr:Bool) (l:List (List UInt8)),fieldsM s out cur wi fr=some l→l.length≤out.length+s.length+1:=by
 induction s with
 | nil =>
  intro out cur wi fr l h
  cases wi
  ·rw [f_end] at h
   obtain rfl:=Option.some.inj h
   have:=addF_length out cur
   simp;omega
  ·rw [f_open] at h;cases h
 | cons c r ih =>
  intro out cur wi fr l h
  have ha:=addF_length out cur
  unfold fieldsM at h
  simp only [List.length_cons]
  split at h
  ·split at h
   ·have:=ih _ _ _ _ _ h;omega
   ·cases h
  ·split at h
   ·have:=ih _ _ _ _ _ h;omega
   ·split at h
    ·obtain rfl:=Option.some.inj h;omega
    ·split at h
     ·have:=ih _ _ _ _ _ h;omega
     ·cases h
theorem fieldsM_octets (s:List UInt8):∀ (out:List (List UInt8)) (cur:List UInt8) (wi fr:Bool) (l:List (List UInt8)),fieldsM s out cur wi fr=some l→l.flatten.length≤out.flatten.length+cur.length+s.length:=by
 have haf:∀ (out:List (List UInt8)) (cur:List UInt8),(addF out cur).flatten.length=out.flatten.length+cur.length:=by
  intro out cur
  unfold addF
  split
  ·subst_vars;simp
  ·simp
 induction s with
 | nil =>
  intro out cur wi fr l h
  cases wi
  ·rw [f_end] at h
   obtain rfl:=Option.some.inj h
   rw [haf]
   simp
  ·rw [f_open] at h;cases h
 | cons c r ih =>
  intro out cur wi fr l h
  have ha:=haf out cur
  unfold fieldsM at h
  simp only [List.length_cons]
  split at h
  ·split at h
   ·have:=ih _ _ _ _ _ h;simp only [List.length_append,List.length_singleton] at this;omega
   ·cases h
  ·split at h
   ·have:=ih _ _ _ _ _ h;simp only [List.length_nil] at this;omega
   ·split at h
    ·obtain rfl:=Option.some.inj h;omega
    ·split at h
     ·have:=ih _ _ _ _ _ h;simp only [List.length_append,List.length_singleton] at this;omega
     ·cases h
theorem fieldsL_length {s:List UInt8} {l:List (List UInt8)} (h:fieldsL s=some l):l.length≤s.length+1:=by
 have:=fieldsM_length s [] [] false false l h
 simpa using this
theorem fieldsL_octets {s:List UInt8} {l:List (List UInt8)} (h:fieldsL s=some l):l.flatten.length≤s.length:=by
 have:=fieldsM_octets s [] [] false false l h
 simpa using this
end Go.Proofs.YtbbjileignefbaaGreatDoor
namespace Go.Proofs.YtbbjileignefbaaGreatDoor
open Go.RowKit DecMath
def toldB (s:Sc):Bool:=(sideB s.c&&sideB s.r)&&(decide (s.l.length≤6)&&s.l.all fun p=>rightB p.d p.n)
theorem toldB_true {s:Sc} (h:toldB s=true):(1≤s.c∧s.c≤64)∧(1≤s.r∧s.r≤64)∧s.l.length≤6∧∀ p∈s.l,rightB p.d p.n=true:=by
 unfold toldB at h
 simp only [Bool.and_eq_true,decide_eq_true_eq,List.all_eq_true] at h
 exact ⟨sideB_true h.1.1,sideB_true h.1.2,h.2⟩
def headT (s:Sc):List UInt8:=Lib.itoa s.c++120 :: Lib.itoa s.r
def partsM (s:Sc):List (List UInt8):=headT s :: s.l.map textS
def joinM:List (List UInt8)→List UInt8
 | []=>[]
 | [p]=>p
 | p :: q :: r=>p++32 :: joinM (q :: r)
def plainO (c:UInt8):Bool:=seenB c&&!blankB c&&!(c==35)&&!(c==34)
theorem plain_field (p rest:List UInt8) (out:List (List UInt8)) (cur:List UInt8) (h:p.all plainO=true):fieldsM (p++rest) out cur false false=fieldsM rest out (cur++p) false false:=by
 induction p generalizing cur with
 | nil=>simp
 | cons c p ih =>
  simp only [List.all_cons,Bool.and_eq_true] at h
  have hc:=h.1
  simp only [plainO,Bool.and_eq_true,Bool.not_eq_true',beq_eq_false_iff_ne,ne_eq] at hc
  rw [List.cons_append,f_out _ _ _ _ hc.1.1.2 hc.1.2 hc.1.1.1,show (c==34)=false by simpa using hc.2,ih _ h.2]
  simp
theorem fields_join (p:List UInt8) (r:List (List UInt8)) (out:List (List UInt8)) (h:∀ q∈p :: r,q≠[]∧q.all plainO=true):fieldsM (joinM (p :: r)) out [] false false=some (out++p :: r):=by
 induction r generalizing p out with
 | nil =>
  rw [joinM]
  have:=plain_field p [] out [] (h p (by simp)).2
  rw [List.append_nil] at this
  rw [this,f_end,List.nil_append,addF_some (h p (by simp)).1]
 | cons q r ih =>
  rw [joinM,plain_field _ _ _ _ (h p (by simp)).2,f_blank _ _ _ _ (by decide),List.nil_append,addF_some (h p (by simp)).1,ih q _ (fun x hx=>h x (by simp at hx ⊢;right;exact hx))]
  simp
theorem plain_digit {c:UInt8} (h:48≤c.toNat∧c.toNat≤57):plainO c=true:=by
 have key:∀ n:Fin 256,48≤n.val→n.val≤57→plainO (UInt8.ofNat n.val)=true:=by decide +kernel
 have:=key ⟨c.toNat,c.toNat_lt⟩ h.1 h.2
 simpa using this
theorem itoa_plain (n:Int) (n0:0≤n):(Lib.itoa n).all plainO=true:=by
 unfold Lib.itoa
 rw [if_neg (by omega),List.all_eq_true]
 exact fun c hc=>plain_digit (digits_each n.toNat c hc)
theorem itoa_some (n:Int) (n0:0≤n):Lib.itoa n≠[]:=by
 unfold Lib.itoa
 rw [if_neg (by omega)]
 exact digits_ne _
theorem itoa_no (n:Int) (n0:0≤n) (x:UInt8) (hx:¬ (48≤x.toNat∧x.toNat≤57)):x∉Lib.itoa n:=by
 unfold Lib.itoa
 rw [if_neg (by omega)]
 exact fun h=>hx (digits_each n.toNat x h)
theorem textS_plain (p:Sp) (h:rightB p.d p.n=true):textS p≠[]∧(textS p).all plainO=true:=by
 obtain ⟨⟨d0,d1⟩,n0,n1⟩:=rightB_true h
 refine ⟨by simp [textS],?_⟩
 unfold textS
 rw [List.all_cons,List.all_append,itoa_plain _ (by omega)]
 have h1:plainO (sideC p.d)=true:=by
  obtain e | e | e | e:p.d=1∨p.d=2∨p.d=3∨p.d=4:=by omega
  all_goals (rw [e];decide)
 rw [h1]
 cases p.u<;>decide
theorem headT_plain (s:Sc) (h:toldB s=true):headT s≠[]∧(headT s).all plainO=true:=by
 obtain ⟨h1,h2,-⟩:=toldB_true h
 refine ⟨by simp [headT],?_⟩
 unfold headT
 rw [List.all_append,List.all_cons,itoa_plain _ (by omega),itoa_plain _ (by omega)]
 decide
theorem parts_plain (s:Sc) (h:toldB s=true):∀ q∈partsM s,q≠[]∧q.all plainO=true:=by
 intro q hq
 simp only [partsM,List.mem_cons,List.mem_map] at hq
 rcases hq with rfl | ⟨p,hp,rfl⟩
 ·exact headT_plain s h
 ·exact textS_plain p ((toldB_true h).2.2.2 p hp)
theorem fields_parts (s:Sc) (h:toldB s=true):fieldsL (joinM (partsM s))=some (partsM s):=by
 have:=fields_join (headT s) (s.l.map textS) [] (parts_plain s h)
 simpa [fieldsL,partsM] using this
def cutX:List UInt8→List UInt8×List UInt8
 | []=>([],[])
 | c :: r=>if c=120 then ([],r) else (c :: (cutX r).1,(cutX r).2)
theorem cutX_lib (h:List UInt8):((Lib.cut h [120]).1,(Lib.cut h [120]).2.1)=cutX h:=by
 have key:∀ h:List UInt8,(Lib.index h [120]=-1∧cutX h=(h,[]))∨∃ i:Nat,Lib.index h [120]=i∧cutX h=(h.take i,h.drop (i+1)):=by
  intro h
  induction h with
  | nil=>left;exact ⟨by decide,rfl⟩
  | cons c r ih =>
   unfold Lib.index cutX
   by_cases e:c=120
   ·subst e;right;exact ⟨0,by simp,by simp⟩
   ·have e1:((120:UInt8)==c)=false:=by simpa using fun h=>e h.symm
    rw [if_neg e,show List.isPrefixOf [120] (c :: r)=false by simp [List.isPrefixOf,e1]]
    rcases ih with ⟨h1,h2⟩ | ⟨i,h1,h2⟩
    ·left;simp [h1,h2]
    ·right
     refine ⟨i+1,?_,by simp [h2]⟩
     have:((i:Int)==-1)=false:=by simp
     simp [h1,this]
 rcases key h with ⟨h1,h2⟩ | ⟨i,h1,h2⟩
 ·simp [Lib.cut,h1,h2]
 ·rw [h2];simp [Lib.cut,h1]
theorem cutX_at {a:List UInt8} (b:List UInt8) (h:(120:UInt8)∉a):cutX (a++120 :: b)=(a,b):=by
 induction a with
 | nil=>simp [cutX]
 | cons c a ih =>
  simp only [List.mem_cons,not_or] at h
  rw [List.cons_append,cutX,if_neg (fun e=>h.1 e.symm),ih h.2]
theorem numOf_true {l:List UInt8} {n:Int} (h:numOf l=(n,true)):Lib.itoa n=l:=by
 rcases numOf_cases l with ⟨m,_,e,h2⟩ | ⟨_,h2⟩
 ·rw [h] at h2
  simp only [Prod.mk.injEq,and_true] at h2
  rw [h2,e]
 ·rw [h] at h2;simp at h2
theorem inOf_true {l:List UInt8} {lo hi:Int} (h:(inOf l lo hi).2=true):Lib.itoa (inOf l lo hi).1=l∧lo≤(inOf l lo hi).1∧(inOf l lo hi).1≤hi:=by
 unfold inOf at h ⊢
 split at h
 ·rename_i h2
  rw [if_pos h2]
  exact ⟨numOf_true (by rw [←h2.1]),h2.2⟩
 ·cases h
def stepsM:List (List UInt8)→Option (List Sp)
 | []=>some []
 | t :: r=>if (getS t).2=true then (stepsM r).map fun l=>(getS t).1 :: l else none
def readM:List (List UInt8)→Option Sc
 | []=>none
 | h :: t=>if t.length≤6∧(inOf (cutX h).1 1 64).2=true∧(inOf (cutX h).2 1 64).2=true then (stepsM t).map fun l=>⟨(inOf (cutX h).1 1 64).1,(inOf (cutX h).2 1 64).1,l⟩ else none
theorem stepsM_text (l:List Sp) (h:∀ p∈l,rightB p.d p.n=true):stepsM (l.map textS)=some l:=by
 induction l with
 | nil=>rfl
 | cons p l ih =>
  rw [List.map_cons,stepsM,getS_text p (h p (by simp)),ih fun q hq=>h q (by simp [hq])]
  simp
theorem read_parts (s:Sc) (h:toldB s=true):readM (partsM s)=some s:=by
 obtain ⟨⟨c0,c1⟩,⟨r0,r1⟩,h6,hl⟩:=toldB_true h
 have hx:cutX (headT s)=(Lib.itoa s.c,Lib.itoa s.r):=cutX_at _ (itoa_no _ (by omega) _ (by decide))
 simp only [partsM,readM]
 rw [hx,inOf_itoa s.c 1 64 (by omega) (by omega) c0 c1,inOf_itoa s.r 1 64 (by omega) (by omega) r0 r1,if_pos ⟨by simpa using h6,rfl,rfl⟩,stepsM_text _ hl]
 rfl
def catS:List (List UInt8×Sc):=[
 ([70,50,45,49],⟨1,1,[]⟩),
 ([70,52,45,49],⟨2,1,[⟨1,1,false⟩]⟩),
 ([70,52,45,50],⟨1,2,[⟨3,1,false⟩]⟩),
 ([70,54,45,49],⟨3,1,[⟨2,1,false⟩,⟨1,1,false⟩]⟩),
 ([70,54,45,50],⟨3,1,[⟨1,1,true⟩,⟨2,1,false⟩]⟩),
 ([70,56,45,49],⟨2,2,[⟨3,1,false⟩,⟨1,1,false⟩]⟩),
 ([70,56,45,50],⟨4,1,[⟨1,2,false⟩,⟨1,1,false⟩]⟩),
 ([70,56,45,51],⟨4,1,[⟨1,1,false⟩,⟨2,1,true⟩,⟨1,1,false⟩]⟩),
 ([70,49,50,45,49],⟨3,2,[⟨3,1,false⟩,⟨2,1,false⟩,⟨1,1,false⟩]⟩),
 ([70,49,50,45,50],⟨6,1,[⟨1,3,false⟩,⟨2,1,false⟩,⟨1,1,false⟩]⟩),
 ([70,49,54,45,49],⟨4,2,[⟨1,2,false⟩,⟨3,1,false⟩,⟨1,1,false⟩]⟩),
 ([70,49,54,45,50],⟨2,4,[⟨3,2,false⟩,⟨3,1,false⟩,⟨1,1,false⟩]⟩),
 ([70,49,54,45,51],⟨8,1,[⟨1,4,false⟩,⟨1,2,false⟩,⟨1,1,false⟩]⟩),
 ([70,49,54,45,52],⟨4,2,[⟨3,1,false⟩,⟨1,2,false⟩,⟨1,1,false⟩]⟩),
 ([70,50,52,45,49],⟨3,4,[⟨3,2,false⟩,⟨3,1,false⟩,⟨2,1,false⟩,⟨1,1,false⟩]⟩),
 ([70,50,52,45,50],⟨6,2,[⟨1,3,false⟩,⟨3,1,false⟩,⟨2,1,false⟩,⟨1,1,false⟩]⟩),
 ([70,51,50,45,49],⟨4,4,[⟨3,2,false⟩,⟨1,2,false⟩,⟨3,1,false⟩,⟨1,1,false⟩]⟩),
 ([70,51,50,45,50],⟨8,2,[⟨1,4,false⟩,⟨1,2,false⟩,⟨3,1,false⟩,⟨1,1,false⟩]⟩),
 ([70,52,56,45,49],⟨6,4,[⟨1,3,false⟩,⟨3,2,false⟩,⟨3,1,false⟩,⟨2,1,false⟩,⟨1,1,false⟩]⟩),
 ([70,54,52,45,49],⟨8,4,[⟨1,4,false⟩,⟨3,2,false⟩,⟨1,2,false⟩,⟨3,1,false⟩,⟨1,1,false⟩]⟩),
 ([70,49,50,56,45,49],⟨8,8,[⟨1,4,false⟩,⟨3,4,false⟩,⟨1,2,false⟩,⟨3,2,false⟩,⟨3,1,false⟩,⟨1,1,false⟩]⟩)]
def dg (n:Int):List UInt8:=[UInt8.ofNat (48+n.toNat)]
theorem itoa_dg {n:Int} (h:(decide (0≤n)&&decide (n<10))=true):Lib.itoa n=dg n:=by
 simp only [Bool.and_eq_true,decide_eq_true_eq] at h
 rw [Lib.itoa,if_neg (by omega),Lib.decDigits_one (by omega)]
 rfl
def textC (p:Sp):List UInt8:=sideC p.d :: (dg p.n++if p.u=true then [117] else [])
def partsC (s:Sc):List (List UInt8):=(dg s.c++120 :: dg s.r) :: s.l.map textC
def smallB (s:Sc):Bool:=((decide (0≤s.c)&&decide (s.c<10))&&(decide (0≤s.r)&&decide (s.r<10)))&&s.l.all fun p=>decide (0≤p.n)&&decide (p.n<10)
theorem parts_small (s:Sc) (h:smallB s=true):partsM s=partsC s:=by
 unfold smallB at h
 rw [Bool.and_eq_true,Bool.and_eq_true,List.all_eq_true] at h
 obtain ⟨⟨h1,h2⟩,h3⟩:=h
 unfold partsM partsC headT
 rw [itoa_dg h1,itoa_dg h2]
 congr 1
 refine List.map_congr_left fun p hp=>?_
 unfold textS textC
 rw [itoa_dg (h3 p hp)]
theorem cat_small:∀ e∈catS,smallB e.2=true:=by decide +kernel
theorem cat_told:∀ e∈catS,toldB e.2=true:=by decide +kernel
theorem cat_parts:∀ e∈catS,partsM e.2=partsC e.2:=fun e he=>parts_small e.2 (cat_small e he)
def findM (n:List UInt8):Option Sc:=(catS.find? fun e=>decide (e.1=n)).map Prod.snd
def nameM (s:Sc):Option (List UInt8):=(catS.find? fun e=>decide (e.2=s)).map Prod.fst
theorem find_of_mem {n:List UInt8} {s:Sc} (h:(n,s)∈catS):findM n=some s∧nameM s=some n:=by
 have key:∀ e∈catS,findM e.1=some e.2∧nameM e.2=some e.1:=by decide +kernel
 exact key (n,s) h
theorem find_some {n:List UInt8} {s:Sc} (h:findM n=some s):(n,s)∈catS:=by
 unfold findM at h
 rw [Option.map_eq_some_iff] at h
 obtain ⟨e,he,rfl⟩:=h
 have h1:=List.mem_of_find?_eq_some he
 have h2:=List.find?_some he
 simp only [decide_eq_true_eq] at h2
 rw [←h2]
 exact h1
theorem find_none {n:List UInt8} (h:∀ e∈catS,e.1≠n):findM n=none:=by
 unfold findM
 rw [Option.map_eq_none_iff,List.find?_eq_none]
 intro e he
 simpa using h e he
def plainM (t:List UInt8):Option Sc:=readM ((fieldsL t).getD [])
theorem retS {F:Sp×Bool} {p:Sp} {b:Bool} (h:F=(p,b)):Ending.returned (.tuple #[.agg #[.int .i64 p.d,.int .i64 p.n,.bool p.u],.bool b])=.returned (.tuple #[.agg #[.int .i64 F.1.d,.int .i64 F.1.n,.bool F.1.u],.bool F.2]):=by rw [h]
theorem stepGet_nil (w:World) :
  Calls Tryz.prog 90 #[.string ⟨#[]⟩] w fun e w'=>e=.returned (.tuple #[.agg #[.int .i64 0,.int .i64 0,.bool false],.bool false])∧Below w.heap.size w w':=by
 go_enter Tryz.func90,Tryz.ntmps90
 go_wp2
 refine bodyPost_ret (v:=.tuple #[.agg #[.int .i64 0,.int .i64 0,.bool false],.bool false]) (by simp [results,Tryz.results90,go_sem]) rfl ⟨rfl,?_⟩
 repeat (first | (with_reducible exact Below.refl _ _) | (with_reducible apply up_alloc) | (with_reducible refine up_set ?_ (by simp only;omega) _))
set_option maxHeartbeats 1000000 in
theorem stepGet_core (t c r g:ByteArray) (s n:Int) (k b f:Bool) (w:World) (t0:1≤t.size) (t1:t.size≤9223372036854775807) (hne:(t.toList==[])=false) (hc:t.extract 0 1=c) (hr:t.extract 1 t.size=r) (hg:Good w) (F:Sp×Bool) (hF:(if k=true∧f=true then ((⟨s,n,b⟩:Sp),true) else (⟨0,0,false⟩,false))=F)
  (KW:∀ w,Calls Tryz.prog 102 #[.int .i64 3,.string c] w fun e w'=>e=.returned (.tuple #[.int .i64 s,.bool k])∧Below w.heap.size w w')
  (KC:∀ w,Calls Tryz.prog 103 #[.string r,.string ⟨#[117]⟩] w fun e w'=>e=.returned (.tuple #[.string g,.bool b])∧w'=w)
  (KD:∀ w,Good w→Calls Tryz.prog 89 #[.string g,.int .i64 1,.int .i64 64] w fun e w'=>e=.returned (.tuple #[.int .i64 n,.bool f])∧Below w.heap.size w w') :
  Calls Tryz.prog 90 #[.string t] w fun e w'=>e=.returned (.tuple #[.agg #[.int .i64 F.1.d,.int .i64 F.1.n,.bool F.1.u],.bool F.2])∧Below w.heap.size w w':=by
 have HW:=Lib.hid KW;have HC:=Lib.hid KC;have HD:=Lib.hid KD;have G:=Lib.hid hg;have HF:=Lib.hid hF
 clear KW KC KD hg hF
 go_enter Tryz.func90,Tryz.ntmps90
 go_wp2_with fail
 refine (HW.out _).mono ?_
 rintro e w1 ⟨rfl,hb⟩
 have A:=(Bx.new w 58 [.int .i64 0,.int .i64 0,.bool false]).up hb
 have B1:=Lib.hid (up_trans (up_alloc (Below.refl _ w) _) hb)
 clear hb
 go_wp2_with fail
 refine (HC.out _).mono ?_
 rintro e w2 ⟨rfl,rfl⟩
 go_wp2_with fail
 refine (HD.out _ (G.out.below B1.out)).mono ?_
 rintro e w3 ⟨rfl,hb⟩
 have A3:=A.up hb
 have B3:=Lib.hid (up_trans B1.out hb)
 clear hb A
 have a0:=A3.cell 0 rfl;have a1:=A3.cell 1 rfl;have a2:=A3.cell 2 rfl;have af:=A3.free
 clear A3
 cases k
 ·go_wp2
  refine bodyPost_ret (v:=.tuple #[.agg #[.int .i64 0,.int .i64 0,.bool false],.bool false]) (by simp [results,Tryz.results90,go_sem,a0,a1,a2]) rfl ⟨retS (p:=⟨0,0,false⟩) (by rw [←HF.out,if_neg (by simp)]),?_⟩
  have B4:=B3.out
  repeat (first | (with_reducible exact B4) | (with_reducible refine up_set ?_ (by simp only;omega) _))
 cases f
 ·go_wp2
  refine bodyPost_ret (v:=.tuple #[.agg #[.int .i64 0,.int .i64 0,.bool false],.bool false]) (by simp [results,Tryz.results90,go_sem,a0,a1,a2]) rfl ⟨retS (p:=⟨0,0,false⟩) (by rw [←HF.out,if_neg (by simp)]),?_⟩
  have B4:=B3.out
  repeat (first | (with_reducible exact B4) | (with_reducible refine up_set ?_ (by simp only;omega) _))
 ·go_wp2
  refine bodyPost_ret (v:=.tuple #[.agg #[.int .i64 s,.int .i64 n,.bool b],.bool true]) (by simp [results,Tryz.results90,go_sem,a0,a1,a2]) rfl ⟨retS (p:=⟨s,n,b⟩) (by rw [←HF.out,if_pos (by simp)]),?_⟩
  have B4:=B3.out
  repeat (first | (with_reducible exact B4) | (with_reducible refine up_set ?_ (by simp only;omega) _))
theorem wordsGet_side (c:UInt8) (w:World) :
  Calls Tryz.prog 102 #[.int .i64 3,.string (tx [c])] w fun e w'=>e=.returned (.tuple #[.int .i64 (sideO c),.bool (decide (sideO c≠0))])∧Below w.heap.size w w':=by
 by_cases h1:c=76
 ·subst h1;exact wordsGet_yes (t:=3) (k:=0) (by decide +kernel) w
 by_cases h2:c=82
 ·subst h2;exact wordsGet_yes (t:=3) (k:=1) (by decide +kernel) w
 by_cases h3:c=66
 ·subst h3;exact wordsGet_yes (t:=3) (k:=2) (by decide +kernel) w
 by_cases h4:c=84
 ·subst h4;exact wordsGet_yes (t:=3) (k:=3) (by decide +kernel) w
 have e:sideO c=0:=by unfold sideO;rw [if_neg h1,if_neg h2,if_neg h3,if_neg h4]
 rw [e]
 refine wordsGet_no ?_ w
 have ht:tab 3=[tx [76],tx [82],tx [66],tx [84]]:=by decide +kernel
 rw [ht]
 intro hm
 have key:∀ x:UInt8,tx [c]=tx [x]→c=x:=fun x hx=>by have:=tx_inj hx;simpa using this
 simp only [List.mem_cons,List.not_mem_nil,or_false] at hm
 rcases hm with hm | hm | hm | hm
 ·exact h1 (key _ hm)
 ·exact h2 (key _ hm)
 ·exact h3 (key _ hm)
 ·exact h4 (key _ hm)
theorem stepGet_any (t:ByteArray) (w:World) (ht:t.size≤9223372036854775807) (hg:Good w) :
  Calls Tryz.prog 90 #[.string t] w fun e w'=>e=.returned (.tuple #[.agg #[.int .i64 (getS t.data.toList).1.d,.int .i64 (getS t.data.toList).1.n,.bool (getS t.data.toList).1.u],.bool (getS t.data.toList).2])∧Below w.heap.size w w':=by
 obtain ⟨l,rfl⟩:∃ l,t=tx l:=⟨_,(tx_data t).symm⟩
 rw [tx_size] at ht
 rw [data_tx]
 cases l with
 | nil=>exact stepGet_nil w
 | cons c r =>
  have hs:=stripU_trim r
  have hr:(stripU r).1.length≤r.length:=by
   unfold stripU
   split
   ·simp
   ·exact Nat.le_refl _
  simp only [List.length_cons] at ht
  refine stepGet_core (tx (c :: r)) (tx [c]) (tx r) (tx (stripU r).1) (sideO c) (inOf (stripU r).1 1 64).1 (decide (sideO c≠0)) (stripU r).2 (inOf (stripU r).1 1 64).2 w (by rw [tx_size];simp) (by rw [tx_size];simpa using ht) (by rw [tx_toList];rfl)
   (by rw [tx_extract,data_tx];simp) (by rw [tx_extract,tx_size,data_tx];simp) hg _ ?_ (fun w=>wordsGet_side c w) (fun w=>?_) (fun w h=>?_)
  ·unfold getS
   simp only [decide_eq_true_eq]
  ·have:=Tryz.strings_CutSuffix (tx r) ⟨#[117]⟩ w (by rw [tx_size];omega)
   rw [data_tx,show (⟨#[117]⟩:ByteArray).data.toList=[117] from rfl,hs.1,hs.2] at this
   exact this
  ·have:=decWithin_any (tx (stripU r).1) 1 64 w (by rw [tx_size];omega) h
   rw [data_tx] at this
   exact this
end Go.Proofs.YtbbjileignefbaaGreatDoor
