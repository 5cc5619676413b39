import Derived.Test.YthhakekbffembaaGreatDoorKZr
import Derived.Lib.Strings
import Derived.Lib.Bytealg
import Derived.Lib.Walk
import Derived.Lib.UnsafeStr
import Derived.Laws.MakeOwn
import Derived.Laws.Externs
import Derived.Lib.ItoaNum
import Derived.Lib.ItoaMem
import Derived.Lib.ItoaLen
import Derived.Lib.AtoiAll
import Derived.Lib.ParseIntB
import Derived.Lib.IndexMore
import Derived.Lib.IndexBytes
set_option maxRecDepth 8000
set_option maxHeartbeats 2000000

namespace Go.Proofs.YthhakekbffembaaGreatDoor.Ck.Sh
open Go.RowKit
attribute [local go_sem] Oper.semAt_some
def bas (l:List UInt8):ByteArray:=⟨l.toArray⟩
theorem bas_data (l:List UInt8):(bas l).data.toList=l:=rfl
theorem aFz (l:List UInt8):(bas l).toList=l:=by rw[Lib.toList_data,bas_data]
theorem bas_of (s:ByteArray):bas s.data.toList=s:=Lib.mk_data s
theorem bas_size (l:List UInt8):(bas l).size=l.length:=by rw[Lib.size_eq,bas_data]
theorem jgz {a b:List UInt8} (h:bas a=bas b):a=b:=by rw[← bas_data a,h,bas_data]
theorem dqz (s:ByteArray) (c:Int) (w:World):Calls Tryz.prog 207 #[.string s,.int .u8 c] w λe w'=>e=.returned (.int .i64 (Lib.indexByte s.data.toList c.toNat.toUInt8))∧w'=w:=by
 go_enter Tryz.func207,Tryz.ntmps207
 go_wp2
 rw[run_callFunc_extern Tryz.func222 (by kernel_rfl) (by kernel_rfl) (by kernel_rfl) (e:=Extern.BytealgIndexByte.indexByte) (by kernel_rfl),Lib.run_indexByteString]
 simp only[Result.andThen]
 rw[Oper.upon_value]
 go_wp2
 go_ret
 exact⟨rfl,rfl⟩
theorem boz (s:ByteArray) (c:Int) (w:World):Calls Tryz.prog 197 #[.string s,.int .u8 c] w λe w'=>e=.returned (.int .i64 (Lib.indexByte s.data.toList c.toNat.toUInt8))∧w'=w:=by
 have h:=dqz s c w
 go_enter Tryz.func197,Tryz.ntmps197
 go_wp2_with (go_at_call 207;refine adz h ?_)
 go_ret
 exact⟨rfl,rfl⟩
theorem bHz {l:List UInt8} {c:UInt8}:0≤Lib.indexByte l c↔c∈l:=by
 induction l with
 |nil=>simp[Lib.indexByte]
 |cons x l ih=>
  unfold Lib.indexByte
  have:=Lib.indexByte_ge l c
  by_cases h:x=c
  ·subst h;simp
  ·have h':¬c=x:=λe=>h e.symm
   simp only[beq_iff_eq,h,if_false,List.mem_cons,h',false_or,← ih]
   split<;>omega
def b3z (s:List UInt8):Int:=
 if s=[]∨s=[46]∨s=[46,46]then 22 else if 0∈s∨47∈s then 22 else if 64<s.length then 36 else 0
def nameN (s:List UInt8):Int:=if(1:UInt8)∈s then 22 else b3z s
def bJz (s:List UInt8):Bool:=decide (0∈s)||decide (1∈s)||decide (47∈s)
theorem edz (s:List UInt8):nameN s=if s=[]∨s=[46]∨s=[46,46]then 22 else if bJz s=true then 22 else if 64<s.length then 36 else 0:=by
 unfold nameN b3z bJz
 simp only[Bool.or_eq_true,decide_eq_true_eq]
 by_cases h1:(1:UInt8)∈s
 ·simp only[h1,if_true,or_true,true_or]
  split<;>rfl
 ·simp only[h1,if_false,or_false]
theorem e2z (l:List UInt8) (w:World):Calls Tryz.prog 163 #[.string (bas l)] w λe w'=>e=.returned (.bool (bJz l))∧w'=w:=by
 have i0:=boz (bas l) 0 w
 have i1:=boz (bas l) 1 w
 have i2:=boz (bas l) 47 w
 rw[bas_data]at i0 i1 i2
 obtain⟨x0,hx0⟩:∃x,Lib.indexByte l (0:Int).toNat.toUInt8=x:=⟨_,rfl⟩
 obtain⟨x1,hx1⟩:∃x,Lib.indexByte l (1:Int).toNat.toUInt8=x:=⟨_,rfl⟩
 obtain⟨x2,hx2⟩:∃x,Lib.indexByte l (47:Int).toNat.toUInt8=x:=⟨_,rfl⟩
 rw[hx0]at i0
 rw[hx1]at i1
 rw[hx2]at i2
 have k0:0≤x0↔(0:UInt8)∈l:=by rw[← hx0];exact bHz
 have k1:0≤x1↔(1:UInt8)∈l:=by rw[← hx1];exact bHz
 have k2:0≤x2↔(47:UInt8)∈l:=by rw[← hx2];exact bHz
 clear hx0 hx1 hx2
 have HW:Hid (bJz l=(decide (0≤x0)||decide (0≤x1)||decide (0≤x2))):=by
  show _=_
  unfold bJz
  simp only[k0,k1,k2]
 clear k0 k1 k2
 by_cases h0:0≤x0
 ·go_enter Tryz.func163,Tryz.ntmps163
  go_wp2_with (first|(go_at_call 197;refine adz i0 ?_;clear i0)|(go_at_call 197;refine adz i1 ?_;clear i1)|(go_at_call 197;refine adz i2 ?_;clear i2))
  go_ret
  rw[HW.out]
  exact⟨by simp[h0],rfl⟩
 by_cases h1:0≤x1
 ·go_enter Tryz.func163,Tryz.ntmps163
  go_wp2_with (first|(go_at_call 197;refine adz i0 ?_;clear i0)|(go_at_call 197;refine adz i1 ?_;clear i1)|(go_at_call 197;refine adz i2 ?_;clear i2))
  go_ret
  rw[HW.out]
  exact⟨by first|(simp;done)|(simp;omega),rfl⟩
 go_enter Tryz.func163,Tryz.ntmps163
 go_wp2_with (first|(go_at_call 197;refine adz i0 ?_;clear i0)|(go_at_call 197;refine adz i1 ?_;clear i1)|(go_at_call 197;refine adz i2 ?_;clear i2))
 go_ret
 rw[HW.out]
 exact⟨by first|(simp;done)|(simp;omega),rfl⟩
theorem foz (l:List UInt8) (w:World) (hs:l.length<1000000000000000):Calls Tryz.prog 121 #[.string (bas l)] w λe w'=>e=.returned (.int .i64 (nameN l))∧w'=w:=by
 have c:=e2z l w
 rw[edz]
 have hsz:=bas_size l
 by_cases h1:l=[]∨l=[46]∨l=[46,46]
 ·rw[if_pos h1]
  rcases h1 with rfl|rfl|rfl
  all_goals
   have e0:bas []=⟨#[]⟩:=rfl
   have e1:bas [46]=⟨#[46]⟩:=rfl
   have e2:bas [46,46]=⟨#[46,46]⟩:=rfl
   clear c
   go_enter Tryz.func121,Tryz.ntmps121
   go_wp2
   go_ret
   exact⟨rfl,rfl⟩
 ·rw[if_neg h1]
  have e1:(bas l).toList.isEmpty=false:=by rw[aFz];simpa using λe=>h1 (.inl e)
  have e2:((bas l).toList==[46])=false:=by rw[aFz];simpa using λe=>h1 (.inr (.inl e))
  have e3:((bas l).toList==[46,46])=false:=by rw[aFz];simpa using λe=>h1 (.inr (.inr e))
  clear h1
  cases hw:bJz l with
  |true=>
   rw[hw]at c
   rw[if_pos rfl]
   clear hw
   go_enter Tryz.func121,Tryz.ntmps121
   go_wp2_with (go_at_call 163;refine adz c ?_)
   go_ret
   exact⟨rfl,rfl⟩
  |false=>
   rw[hw]at c
   rw[if_neg (by decide)]
   clear hw
   by_cases h64:64<l.length
   ·have h64I:(64:Int)<(l.length:Int):=by omega
    rw[if_pos h64]
    go_enter Tryz.func121,Tryz.ntmps121
    go_wp2_with (go_at_call 163;refine adz c ?_)
    go_ret
    exact⟨rfl,rfl⟩
   ·have h64I:¬(64:Int)<(l.length:Int):=by omega
    rw[if_neg h64]
    go_enter Tryz.func121,Tryz.ntmps121
    go_wp2_with (go_at_call 163;refine adz c ?_)
    go_ret
    exact⟨rfl,rfl⟩
theorem e8z (s:ByteArray) (w:World) (hs:s.size<1000000000000000):Calls Tryz.prog 98 #[.string s] w λe w'=>e=.returned (.int .i64 (b3z s.data.toList))∧w'=w:=by
 obtain⟨l,hl⟩:∃l,s.data.toList=l:=⟨_,rfl⟩
 obtain rfl:s=bas l:=by rw[← hl,bas_of]
 clear hl
 rw[bas_data]
 rw[bas_size]at hs
 by_cases h1:l=[]∨l=[46]∨l=[46,46]
 ·have hf:b3z l=22:=by unfold b3z;rw[if_pos h1]
  rw[hf]
  rcases h1 with rfl|rfl|rfl
  all_goals
   have e0:bas []=⟨#[]⟩:=rfl
   have e1:bas [46]=⟨#[46]⟩:=rfl
   have e2:bas [46,46]=⟨#[46,46]⟩:=rfl
   go_enter Tryz.func98,Tryz.ntmps98
   go_wp2
   go_ret
   exact⟨rfl,rfl⟩
 ·have e1:(bas l).toList.isEmpty=false:=by rw[aFz];simpa using λe=>h1 (.inl e)
  have e2:((bas l).toList==[46])=false:=by rw[aFz];simpa using λe=>h1 (.inr (.inl e))
  have e3:((bas l).toList==[46,46])=false:=by rw[aFz];simpa using λe=>h1 (.inr (.inr e))
  have hsz:=bas_size l
  have H1:=a0z h1
  clear h1
  go_enter Tryz.func98,Tryz.ntmps98
  go_wp2_with fail
  go_loopw [3] (λii wr=>∃i:Nat,ii=.int .i64 i∧i≤l.length∧wr=w∧Hid (∀j c,j<i→l[j]? =some c→c≠0∧c≠47)) (λii _=>l.length-(intOf ii).toNat)
  case atStart=>exact⟨0,rfl,Nat.zero_le _,rfl,λj c hj=>by omega⟩
  case round=>
   obtain⟨i,rfl,hi,rfl,HI⟩:=hrel
   by_cases hlt:i<l.length
   ·have hltI:(i:Int)<(l.length:Int):=by omega
    obtain⟨c,hc⟩:∃c,l[i]? =some c:=⟨_,List.getElem?_eq_getElem hlt⟩
    have hci:∀h:i<(bas l).size,(bas l)[i]'h=c:=λh=>by
     show(bas l).data[i]=c
     have:=List.getElem?_eq_some_iff.1 hc
     exact this.2
    have hcm:c∈l:=List.mem_of_getElem? hc
    obtain⟨n,hn⟩:∃n,c.toNat=n:=⟨_,rfl⟩
    by_cases h0:n=0
    ·have HF:Hid (b3z l=22):=by
      have:c=0:=by apply UInt8.toNat_inj.1;rw[hn,h0];rfl
      subst this
      show _=_;unfold b3z;rw[if_neg H1.out,if_pos (.inl hcm)]
     subst h0
     have hq:((0:Nat):Int)=0:=rfl
     clear hc hcm
     go_wp2_with fail
     go_ret
     exact⟨by rw[HF.out];rfl,rfl⟩
    ·have h0I:((n:Int)==0)=false:=by rw[beq_eq_false_iff_ne];omega
     by_cases h47:n=47
     ·have HF:Hid (b3z l=22):=by
       have:c=47:=by apply UInt8.toNat_inj.1;rw[hn,h47];rfl
       subst this
       show _=_;unfold b3z;rw[if_neg H1.out,if_pos (.inr hcm)]
      subst h47
      clear hc hcm
      go_wp2_with fail
      go_ret
      exact⟨by rw[HF.out];rfl,rfl⟩
     ·have h47I:((n:Int)==47)=false:=by rw[beq_eq_false_iff_ne];omega
      have HN:Hid (∀j c,j<i+1→l[j]? =some c→c≠0∧c≠47):=λj d hj hd=>by
       by_cases hji:j=i
       ·subst hji
        rw[hc]at hd;cases hd
        exact⟨λe=>by rw[e]at hn;exact h0 hn.symm,λe=>by rw[e]at hn;exact h47 hn.symm⟩
       ·exact HI.out j d (by omega) hd
      clear hc hcm
      go_wp2_with fail
      exact⟨⟨i+1,by simp,by omega,trivial,HN⟩,by simp[intOf];omega⟩
   ·obtain rfl:i=l.length:=by omega
    have hno:¬(0∈l∨47∈l):=by
     rintro(h|h)
     ·obtain⟨j,hj⟩:=List.getElem?_of_mem h
      exact(HI.out j _ (List.getElem?_eq_some_iff.1 hj).1 hj).1 rfl
     ·obtain⟨j,hj⟩:=List.getElem?_of_mem h
      exact(HI.out j _ (List.getElem?_eq_some_iff.1 hj).1 hj).2 rfl
    by_cases h64:64<l.length
    ·have h64I:(64:Int)<(l.length:Int):=by omega
     have HF:Hid (b3z l=36):=by show _=_;unfold b3z;rw[if_neg H1.out,if_neg hno,if_pos h64]
     clear hno
     go_wp2_with fail
     go_ret
     exact⟨by rw[HF.out];rfl,rfl⟩
    ·have h64I:¬(64:Int)<(l.length:Int):=by omega
     have HF:Hid (b3z l=0):=by show _=_;unfold b3z;rw[if_neg H1.out,if_neg hno,if_neg h64]
     clear hno
     go_wp2_with fail
     go_ret
     exact⟨by rw[HF.out];rfl,rfl⟩
theorem fTz (l:List UInt8) (w:World) (hs:l.length<1000000000000000):Calls Tryz.prog 65 #[.string (bas l)] w λe w'=>e=.returned (.int .i64 (nameN l))∧w'=w:=by
 have c:=e8z (bas l) w (by rw[bas_size];exact hs)
 rw[bas_data]at c
 have hsz:=bas_size l
 go_enter Tryz.func65,Tryz.ntmps65
 go_wp2_with fail
 go_loopw [3] (λii wr=>∃i:Nat,ii=.int .i64 i∧i≤l.length∧wr=w∧Hid (∀j c,j<i→l[j]? =some c→c≠1)) (λii _=>l.length-(intOf ii).toNat)
 case atStart=>exact⟨0,rfl,Nat.zero_le _,rfl,λj c hj=>by omega⟩
 case round=>
  obtain⟨i,rfl,hi,rfl,HI⟩:=hrel
  by_cases hlt:i<l.length
  ·have hltI:(i:Int)<(l.length:Int):=by omega
   obtain⟨c0,hc⟩:∃c,l[i]? =some c:=⟨_,List.getElem?_eq_getElem hlt⟩
   have hci:∀h:i<(bas l).size,(bas l)[i]'h=c0:=λh=>by
    show(bas l).data[i]=c0
    have:=List.getElem?_eq_some_iff.1 hc
    exact this.2
   have hcm:c0∈l:=List.mem_of_getElem? hc
   obtain⟨n,hn⟩:∃n,c0.toNat=n:=⟨_,rfl⟩
   by_cases h0:n=1
   ·have HF:Hid (nameN l=22):=by
     have:c0=1:=by apply UInt8.toNat_inj.1;rw[hn,h0];rfl
     subst this
     show _=_;unfold nameN;rw[if_pos hcm]
    subst h0
    have hq:((1:Nat):Int)=1:=rfl
    clear hc hcm c
    go_wp2_with fail
    go_ret
    exact⟨by rw[HF.out];rfl,rfl⟩
   ·have h0I:((n:Int)==1)=false:=by rw[beq_eq_false_iff_ne];omega
    have HN:Hid (∀j c,j<i+1→l[j]? =some c→c≠1):=λj d hj hd=>by
     by_cases hji:j=i
     ·subst hji
      rw[hc]at hd;cases hd
      exact λe=>by rw[e]at hn;exact h0 hn.symm
     ·exact HI.out j d (by omega) hd
    clear hc hcm c
    go_wp2_with fail
    exact⟨⟨i+1,by simp,by omega,trivial,HN⟩,by simp[intOf];omega⟩
  ·obtain rfl:i=l.length:=by omega
   have HF:Hid (nameN l=b3z l):=by
    show _=_;unfold nameN
    rw[if_neg]
    intro h
    obtain⟨j,hj⟩:=List.getElem?_of_mem h
    exact(HI.out j _ (List.getElem?_eq_some_iff.1 hj).1 hj) rfl
   go_wp2_with (go_at_call 98;refine adz c ?_)
   go_ret
   exact⟨by rw[HF.out];rfl,rfl⟩
end Go.Proofs.YthhakekbffembaaGreatDoor.Ck.Sh

namespace Go.Proofs.YthhakekbffembaaGreatDoor.Ck.Sh
open Go.RowKit Go.Lib
variable {z t n:Int} {c:UInt8}
def gsz (c:UInt8):Bool:=decide (48≤c.toNat)&&decide (c.toNat≤57)
def dSz (a:Nat) (l:List UInt8):Nat:=l.foldl (λa c=>a*10+(c.toNat-48)) a
def lGz (l:List UInt8):Nat:=dSz 0 l
theorem cUz (a:Nat):dSz a []=a:=List.foldl_nil
theorem bGz (a:Nat) (c:UInt8) (l:List UInt8):dSz a (c::l)=dSz (a*10+(c.toNat-48)) l:=List.foldl_cons ..
theorem hzz (l m:List UInt8) (a:Nat):dSz a (l++m)=dSz (dSz a l) m:=List.foldl_append ..
theorem kmz (l:List UInt8) (c:UInt8):lGz (l++[c])=lGz l*10+(c.toNat-48):=by
 unfold lGz;rw[hzz];simp only[bGz,cUz]
theorem g3z:∀(l:List UInt8) (a:Nat),a≤dSz a l
 |[],_=>by rw[cUz];exact Nat.le_refl _
 |c::l,a=>by
  have:=g3z l (a*10+(c.toNat-48))
  simp only[bGz];omega
theorem cMz (k:Nat) (h:k<10):(UInt8.ofNat (48+k)).toNat=48+k:=by
 rw[UInt8.toNat_ofNat']
 omega
theorem cFz (u:Nat) (h:¬u<10):decDigits u=decDigits (u/10)++[UInt8.ofNat (48+u%10)]:=by
 rw[decDigits,dif_neg h]
theorem cuz (u:Nat):∀c∈decDigits u,gsz c=true:=by
 induction u using Nat.strongRecOn with
 |_ u ih=>
  by_cases h:u<10
  ·rw[decDigits_one h]
   intro c hc
   rw[List.mem_singleton.1 hc]
   unfold gsz
   rw[cMz u h]
   simp
   omega
  ·rw[cFz u h]
   intro c hc
   rcases List.mem_append.1 hc with h1|h1
   ·exact ih _ (by omega) c h1
   ·rw[List.mem_singleton.1 h1]
    unfold gsz
    rw[cMz _ (by omega)]
    simp
    omega
theorem eCz (u:Nat):lGz (decDigits u)=u:=by
 induction u using Nat.strongRecOn with
 |_ u ih=>
  by_cases h:u<10
  ·rw[decDigits_one h]
   simp only[lGz,bGz,cUz,cMz u h]
   omega
  ·rw[cFz u h,kmz,ih _ (by omega),cMz _ (by omega)]
   omega
theorem mAz {u v:Nat} (h:decDigits u=decDigits v):u=v:=by rw[← eCz u,h,eCz]
theorem o4z (u:Nat):decDigits u≠[]:=by
 by_cases h:u<10
 ·rw[decDigits_one h];simp
 ·rw[cFz u h];simp
theorem jmz {u:Nat}:∀k,u<10 ^ (k+1)→(decDigits u).length≤k+1
 |0,h=>by rw[decDigits_one (by simpa using h)];simp
 |k+1,h=>by
  by_cases h10:u<10
  ·rw[decDigits_one h10];simp
  ·rw[cFz u h10]
   have:=jmz (u:=u/10) k (by rw[Nat.pow_succ]at h;omega)
   simp
   omega
theorem dRz (M:Nat):∀(l:List UInt8) (a:Nat),(∀c∈l,gsz c=true)→dSz a l≤M→M<18446744073709551616→parseUintM M a l=.ok (dSz a l)
 |[],_,_,_,_=>by rw[cUz];rfl
 |c::l,a,hd,hv,hM=>by
  have hc:=hd c (List.mem_cons_self ..)
  unfold gsz at hc
  simp only[Bool.and_eq_true,decide_eq_true_eq]at hc
  simp only[bGz]at hv
  have hg:=g3z l (a*10+(c.toNat-48))
  unfold parseUintM
  rw[if_pos hc,if_neg (by omega),if_neg (by omega),dRz M l _ (λx hx=>hd x (List.mem_cons_of_mem _ hx)) hv hM,bGz]
theorem dbz:∀(l:List UInt8) (a:Nat),(∀c∈l,gsz c=true)→dSz a l<18446744073709551616→parseUint10 a l=.ok (dSz a l)
 |[],_,_,_=>by rw[cUz];rfl
 |c::l,a,hd,hv=>by
  have hc:=hd c (List.mem_cons_self ..)
  unfold gsz at hc
  simp only[Bool.and_eq_true,decide_eq_true_eq]at hc
  simp only[bGz]at hv
  have hg:=g3z l (a*10+(c.toNat-48))
  unfold parseUint10
  rw[if_pos hc,if_neg (by omega),if_neg (by omega),dbz l _ (λx hx=>hd x (List.mem_cons_of_mem _ hx)) hv,bGz]
theorem gGz (u:Nat):∃c l,decDigits u=c::l∧48≤c.toNat∧c.toNat≤57:=by
 cases h:decDigits u with
 |nil=>exact absurd h (o4z u)
 |cons c l=>
  have hc:=cuz u c (by rw[h];exact List.mem_cons_self ..)
  unfold gsz at hc
  simp only[Bool.and_eq_true,decide_eq_true_eq]at hc
  exact⟨c,l,rfl,hc⟩
theorem kkz (u:Nat) (hu:u<9223372036854775808):parseIntB 64 (decDigits u)=.ok (u:Int):=by
 have hd:=cuz u
 have hv:=eCz u
 obtain⟨c,l,e,h1,h2⟩:=gGz u
 rw[e]at hd hv⊢
 unfold parseIntB
 have hn:¬(c.toNat=43∨c.toNat=45):=by omega
 have hn':¬c.toNat=45:=by omega
 have hp:parseUintB 64 (c::l)=.ok u:=by
  unfold parseUintB
  rw[if_neg (by simp),dRz (2 ^ 64-1) (c::l) 0 hd (by rw[show dSz 0 (c::l)=u from hv];omega) (by decide)]
  exact congrArg _ hv
 simp only[]
 rw[if_neg hn,hp]
 simp only[hn',not_false_eq_true,true_and,false_and,if_false]
 rw[if_neg (by omega)]
theorem lKz (u:Nat) (hu:u<9223372036854775808):atoiAll (decDigits u)=.ok (u:Int):=by
 have hd:=cuz u
 have hv:=eCz u
 obtain⟨c,l,e,h1,h2⟩:=gGz u
 rw[e]at hd hv⊢
 unfold atoiAll
 have hn:¬(c.toNat=43∨c.toNat=45):=by omega
 have hn':¬c.toNat=45:=by omega
 have hp:parseMag (c::l)=.ok u:=by
  unfold parseMag
  rw[if_neg (by simp),dbz (c::l) 0 hd (by rw[show dSz 0 (c::l)=u from hv];omega)]
  exact congrArg _ hv
 simp only[]
 rw[if_neg hn,hp]
 simp only[hn',not_false_eq_true,true_and,false_and,if_false]
 rw[if_neg (by omega)]
def tv (l:List UInt8):Int:=match parseIntB 64 l with|.ok v=>v|.syntax=>0|.range=>intSat 64 l
def nv (l:List UInt8):Int:=match atoiAll l with|.ok v=>v|.syntax=>0|.range=>atoiSat l
theorem cGz (h:0≤z):itoa z=decDigits z.toNat:=by unfold itoa;rw[if_neg (by omega)]
theorem n1z (h:0≤z) (h':z<9223372036854775808):tv (itoa z)=z:=by
 rw[cGz h]
 unfold tv
 rw[kkz z.toNat (by omega)]
 show(z.toNat:Int)=z
 omega
theorem nuz (h:0≤z) (h':z<9223372036854775808):nv (itoa z)=z:=by
 rw[cGz h]
 unfold nv
 rw[lKz z.toNat (by omega)]
 show(z.toNat:Int)=z
 omega
theorem gSz {y:Int} (h:0≤y) (h':0≤z) (e:itoa y=itoa z):y=z:=by
 rw[cGz h,cGz h']at e
 have:=mAz e
 omega
theorem giz (h:0≤z) (hc:gsz c=false):c∉itoa z:=by
 rw[cGz h]
 intro hm
 rw[cuz _ c hm]at hc
 cases hc
def bbz (t n:Int):List UInt8:=1::(itoa t++46::itoa n)
theorem cNz {α:Type} {c:α}:∀{a a' b b':List α},c∉a→c∉a'→a++c::b=a'++c::b'→a=a'∧b=b'
 |[],[],_,_,_,_,h=>⟨rfl,by simpa using h⟩
 |[],x::a',_,_,_,h',h=>by
  simp only[List.nil_append,List.cons_append,List.cons.injEq]at h
  exact absurd (h.1▸List.mem_cons_self ..) h'
 |x::a,[],_,_,h',_,h=>by
  simp only[List.nil_append,List.cons_append,List.cons.injEq]at h
  exact absurd (h.1▸List.mem_cons_self ..) h'
 |x::a,y::a',b,b',h1,h2,h=>by
  simp only[List.cons_append,List.cons.injEq]at h
  obtain⟨e1,e2⟩:=cNz (λhm=>h1 (List.mem_cons_of_mem _ hm)) (λhm=>h2 (List.mem_cons_of_mem _ hm)) h.2
  exact⟨by rw[h.1,e1],e2⟩
theorem cSz:∀{a b:List UInt8},c∉a→indexByte (a++c::b) c=(a.length:Nat)
 |[],b,_=>by simp[indexByte]
 |x::a,b,h=>by
  have hx:¬x=c:=λe=>h (e▸List.mem_cons_self ..)
  have ih:=cSz (b:=b) (λhm=>h (List.mem_cons_of_mem x hm))
  simp only[List.cons_append,indexByte,ih,beq_iff_eq,hx,if_false]
  rw[if_neg (by omega)]
  simp
theorem htz {a b:List UInt8} (h:c∉a):Lib.cut (a++c::b) [c]=(a,b,true):=by
 unfold Lib.cut
 rw[index_one,cSz h,if_pos (by omega)]
 simp
def SplitOf (s:List UInt8):Option (List UInt8×Int×Int)→Prop
 |some (nm,t,n)=>nameN nm=0∧validB t n=true∧s=nm++bbz t n
 |none=>∀nm t n,nameN nm=0→validB t n=true→s≠nm++bbz t n
theorem e0z {l:List UInt8} (h:nameN l=0):(1:UInt8)∉l:=by
 intro hm
 unfold nameN at h
 rw[if_pos hm]at h
 cases h
theorem bEz (h:validB t n=true):1≤t∧t≤1152921504606846976∧0≤n∧n<64:=validB_true.1 h
theorem mtz {t' n':Int} (h:validB t n=true) (h':validB t' n'=true) (e:bbz t n=bbz t' n'):t=t'∧n=n':=by
 have b:=bEz h
 have b':=bEz h'
 unfold bbz at e
 simp only[List.cons.injEq,true_and]at e
 obtain⟨e1,e2⟩:=cNz (giz (by omega) (by rfl)) (giz (by omega) (by rfl)) e
 exact⟨gSz (by omega) (by omega) e1,gSz (by omega) (by omega) e2⟩
theorem jMz {nm nm':List UInt8} {t' n':Int} (h:nameN nm=0) (h':nameN nm'=0) (hv:validB t n=true) (hv':validB t' n'=true) (e:nm++bbz t n=nm'++bbz t' n'):nm=nm'∧t=t'∧n=n':=by
 have e':=e
 unfold bbz at e
 obtain⟨e1,e2⟩:=cNz (e0z h) (e0z h') e
 exact⟨e1,mtz hv hv' (by unfold bbz;rw[e2])⟩
theorem SplitOf.unique {s:List UInt8}:∀{r r':Option (List UInt8×Int×Int)},SplitOf s r→SplitOf s r'→r=r'
 |none,none,_,_=>rfl
 |some (nm,t,n),none,h,h'=>absurd h.2.2 (h' nm t n h.1 h.2.1)
 |none,some (nm,t,n),h,h'=>absurd h'.2.2 (h nm t n h'.1 h'.2.1)
 |some (nm,t,n),some (nm',t',n'),h,h'=>by
  obtain⟨rfl,rfl,rfl⟩:=jMz h.1 h'.1 h.2.1 h'.2.1 (h.2.2.symm.trans h'.2.2)
  rfl
def fzz (s:List UInt8):List UInt8:=(Lib.cut s [1]).1
def fsz (s:List UInt8):Int:=tv (Lib.cut (Lib.cut s [1]).2.1 [46]).1
def fwz (s:List UInt8):Int:=nv (Lib.cut (Lib.cut s [1]).2.1 [46]).2.1
def bfz (s:List UInt8):Option (List UInt8×Int×Int):=if nameN (fzz s)=0∧validB (fsz s) (fwz s)=true∧s=fzz s++bbz (fsz s) (fwz s)then some (fzz s,fsz s,fwz s)else none
theorem lwz {nm:List UInt8} (h:nameN nm=0) (hv:validB t n=true):fzz (nm++bbz t n)=nm∧fsz (nm++bbz t n)=t∧fwz (nm++bbz t n)=n:=by
 have b:=bEz hv
 unfold fzz fsz fwz bbz
 rw[htz (e0z h)]
 simp only[]
 rw[htz (giz (by omega) (by rfl))]
 exact⟨by first|exact rfl|exact trivial,n1z (by omega) (by omega),nuz (by omega) (by omega)⟩
theorem fOz (s:List UInt8):SplitOf s (bfz s):=by
 unfold bfz
 split
 ·rename_i h
  exact h
 ·rename_i h
  intro nm t n h1 h2 e
  subst e
  obtain⟨e1,e2,e3⟩:=lwz h1 h2
  rw[e1,e2,e3]at h
  exact h ⟨h1,h2,rfl⟩
end Go.Proofs.YthhakekbffembaaGreatDoor.Ck.Sh
