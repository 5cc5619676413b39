import Derived.Test.YthhakekbffembaaGreatDoorQKcodm
import Derived.Test.YthhakekbffembaaGreatDoorQVvecm
import Derived.Test.YthhakekbffembaaGreatDoorKNcmp
import Derived.Lib.Strings
import Derived.Lib.Bytealg
import Derived.Lib.Walk
import Derived.Lib.UnsafeStr
import Derived.Laws.MakeOwn
import Derived.Laws.Externs
set_option maxRecDepth 8000
set_option maxHeartbeats 2000000

namespace Go.Proofs.YthhakekbffembaaGreatDoor.Cd
open Go.RowKit
attribute [local go_sem] Oper.semAt_some
def bas (l:List UInt8):ByteArray:=⟨l.toArray⟩
theorem bas_data (l:List UInt8):(bas l).data.toList=l:=rfl
theorem aFz (l:List UInt8):(bas l).toList=l:=by rw[Lib.toList_data,bas_data]
theorem bas_of (s:ByteArray):bas s.data.toList=s:=Lib.mk_data s
theorem bas_size (l:List UInt8):(bas l).size=l.length:=by rw[Lib.size_eq,bas_data]
theorem jgz {a b:List UInt8} (h:bas a=bas b):a=b:=by rw[← bas_data a,h,bas_data]
def bvs (l:List UInt8):List (BitVec 8):=l.map UInt8.toBitVec
theorem dqz (s:ByteArray) (c:Int) (w:World):Calls Tryz.prog 207 #[.string s,.int .u8 c] w λe w'=>e=.returned (.int .i64 (Lib.indexByte s.data.toList c.toNat.toUInt8))∧w'=w:=by
 go_enter Tryz.func207,Tryz.ntmps207
 go_wp2
 rw[run_callFunc_extern Tryz.func222 (by kernel_rfl) (by kernel_rfl) (by kernel_rfl) (e:=Extern.BytealgIndexByte.indexByte) (by kernel_rfl),Lib.run_indexByteString]
 simp only[Result.andThen]
 rw[Oper.upon_value]
 go_wp2
 go_ret
 exact⟨rfl,rfl⟩
theorem boz (s:ByteArray) (c:Int) (w:World):Calls Tryz.prog 197 #[.string s,.int .u8 c] w λe w'=>e=.returned (.int .i64 (Lib.indexByte s.data.toList c.toNat.toUInt8))∧w'=w:=by
 have h:=dqz s c w
 go_enter Tryz.func197,Tryz.ntmps197
 go_wp2_with (go_at_call 207;refine adz h ?_)
 go_ret
 exact⟨rfl,rfl⟩
theorem bHz {l:List UInt8} {c:UInt8}:0≤Lib.indexByte l c↔c∈l:=by
 induction l with
 |nil=>simp[Lib.indexByte]
 |cons x l ih=>
  unfold Lib.indexByte
  have:=Lib.indexByte_ge l c
  by_cases h:x=c
  ·subst h;simp
  ·have h':¬c=x:=λe=>h e.symm
   simp only[beq_iff_eq,h,if_false,List.mem_cons,h',false_or,← ih]
   split<;>omega
def b3z (s:List UInt8):Int:=
 if s=[]∨s=[46]∨s=[46,46]then 22 else if 0∈s∨47∈s then 22 else if 64<s.length then 36 else 0
def nameN (s:List UInt8):Int:=if(1:UInt8)∈s then 22 else b3z s
def bJz (s:List UInt8):Bool:=decide (0∈s)||decide (1∈s)||decide (47∈s)
theorem edz (s:List UInt8):nameN s=if s=[]∨s=[46]∨s=[46,46]then 22 else if bJz s=true then 22 else if 64<s.length then 36 else 0:=by
 unfold nameN b3z bJz
 simp only[Bool.or_eq_true,decide_eq_true_eq]
 by_cases h1:(1:UInt8)∈s
 ·simp only[h1,if_true,or_true,true_or]
  split<;>rfl
 ·simp only[h1,if_false,or_false]
theorem e2z (l:List UInt8) (w:World):Calls Tryz.prog 163 #[.string (bas l)] w λe w'=>e=.returned (.bool (bJz l))∧w'=w:=by
 have i0:=boz (bas l) 0 w
 have i1:=boz (bas l) 1 w
 have i2:=boz (bas l) 47 w
 rw[bas_data]at i0 i1 i2
 obtain⟨x0,hx0⟩:∃x,Lib.indexByte l (0:Int).toNat.toUInt8=x:=⟨_,rfl⟩
 obtain⟨x1,hx1⟩:∃x,Lib.indexByte l (1:Int).toNat.toUInt8=x:=⟨_,rfl⟩
 obtain⟨x2,hx2⟩:∃x,Lib.indexByte l (47:Int).toNat.toUInt8=x:=⟨_,rfl⟩
 rw[hx0]at i0
 rw[hx1]at i1
 rw[hx2]at i2
 have k0:0≤x0↔(0:UInt8)∈l:=by rw[← hx0];exact bHz
 have k1:0≤x1↔(1:UInt8)∈l:=by rw[← hx1];exact bHz
 have k2:0≤x2↔(47:UInt8)∈l:=by rw[← hx2];exact bHz
 clear hx0 hx1 hx2
 have HW:Hid (bJz l=(decide (0≤x0)||decide (0≤x1)||decide (0≤x2))):=by
  show _=_
  unfold bJz
  simp only[k0,k1,k2]
 clear k0 k1 k2
 by_cases h0:0≤x0
 ·go_enter Tryz.func163,Tryz.ntmps163
  go_wp2_with (first|(go_at_call 197;refine adz i0 ?_;clear i0)|(go_at_call 197;refine adz i1 ?_;clear i1)|(go_at_call 197;refine adz i2 ?_;clear i2))
  go_ret
  rw[HW.out]
  exact⟨by simp[h0],rfl⟩
 by_cases h1:0≤x1
 ·go_enter Tryz.func163,Tryz.ntmps163
  go_wp2_with (first|(go_at_call 197;refine adz i0 ?_;clear i0)|(go_at_call 197;refine adz i1 ?_;clear i1)|(go_at_call 197;refine adz i2 ?_;clear i2))
  go_ret
  rw[HW.out]
  exact⟨by first|(simp;done)|(simp;omega),rfl⟩
 go_enter Tryz.func163,Tryz.ntmps163
 go_wp2_with (first|(go_at_call 197;refine adz i0 ?_;clear i0)|(go_at_call 197;refine adz i1 ?_;clear i1)|(go_at_call 197;refine adz i2 ?_;clear i2))
 go_ret
 rw[HW.out]
 exact⟨by first|(simp;done)|(simp;omega),rfl⟩
theorem foz (l:List UInt8) (w:World) (hs:l.length<1000000000000000):Calls Tryz.prog 121 #[.string (bas l)] w λe w'=>e=.returned (.int .i64 (nameN l))∧w'=w:=by
 have c:=e2z l w
 rw[edz]
 have hsz:=bas_size l
 by_cases h1:l=[]∨l=[46]∨l=[46,46]
 ·rw[if_pos h1]
  rcases h1 with rfl|rfl|rfl
  all_goals
   have e0:bas []=⟨#[]⟩:=rfl
   have e1:bas [46]=⟨#[46]⟩:=rfl
   have e2:bas [46,46]=⟨#[46,46]⟩:=rfl
   clear c
   go_enter Tryz.func121,Tryz.ntmps121
   go_wp2
   go_ret
   exact⟨rfl,rfl⟩
 ·rw[if_neg h1]
  have e1:(bas l).toList.isEmpty=false:=by rw[aFz];simpa using λe=>h1 (.inl e)
  have e2:((bas l).toList==[46])=false:=by rw[aFz];simpa using λe=>h1 (.inr (.inl e))
  have e3:((bas l).toList==[46,46])=false:=by rw[aFz];simpa using λe=>h1 (.inr (.inr e))
  clear h1
  cases hw:bJz l with
  |true=>
   rw[hw]at c
   rw[if_pos rfl]
   clear hw
   go_enter Tryz.func121,Tryz.ntmps121
   go_wp2_with (go_at_call 163;refine adz c ?_)
   go_ret
   exact⟨rfl,rfl⟩
  |false=>
   rw[hw]at c
   rw[if_neg (by decide)]
   clear hw
   by_cases h64:64<l.length
   ·have h64I:(64:Int)<(l.length:Int):=by omega
    rw[if_pos h64]
    go_enter Tryz.func121,Tryz.ntmps121
    go_wp2_with (go_at_call 163;refine adz c ?_)
    go_ret
    exact⟨rfl,rfl⟩
   ·have h64I:¬(64:Int)<(l.length:Int):=by omega
    rw[if_neg h64]
    go_enter Tryz.func121,Tryz.ntmps121
    go_wp2_with (go_at_call 163;refine adz c ?_)
    go_ret
    exact⟨rfl,rfl⟩
theorem e8z (s:ByteArray) (w:World) (hs:s.size<1000000000000000):Calls Tryz.prog 98 #[.string s] w λe w'=>e=.returned (.int .i64 (b3z s.data.toList))∧w'=w:=by
 obtain⟨l,hl⟩:∃l,s.data.toList=l:=⟨_,rfl⟩
 obtain rfl:s=bas l:=by rw[← hl,bas_of]
 clear hl
 rw[bas_data]
 rw[bas_size]at hs
 by_cases h1:l=[]∨l=[46]∨l=[46,46]
 ·have hf:b3z l=22:=by unfold b3z;rw[if_pos h1]
  rw[hf]
  rcases h1 with rfl|rfl|rfl
  all_goals
   have e0:bas []=⟨#[]⟩:=rfl
   have e1:bas [46]=⟨#[46]⟩:=rfl
   have e2:bas [46,46]=⟨#[46,46]⟩:=rfl
   go_enter Tryz.func98,Tryz.ntmps98
   go_wp2
   go_ret
   exact⟨rfl,rfl⟩
 ·have e1:(bas l).toList.isEmpty=false:=by rw[aFz];simpa using λe=>h1 (.inl e)
  have e2:((bas l).toList==[46])=false:=by rw[aFz];simpa using λe=>h1 (.inr (.inl e))
  have e3:((bas l).toList==[46,46])=false:=by rw[aFz];simpa using λe=>h1 (.inr (.inr e))
  have hsz:=bas_size l
  have H1:=a0z h1
  clear h1
  go_enter Tryz.func98,Tryz.ntmps98
  go_wp2_with fail
  go_loopw [3] (λii wr=>∃i:Nat,ii=.int .i64 i∧i≤l.length∧wr=w∧Hid (∀j c,j<i→l[j]? =some c→c≠0∧c≠47)) (λii _=>l.length-(intOf ii).toNat)
  case atStart=>exact⟨0,rfl,Nat.zero_le _,rfl,λj c hj=>by omega⟩
  case round=>
   obtain⟨i,rfl,hi,rfl,HI⟩:=hrel
   by_cases hlt:i<l.length
   ·have hltI:(i:Int)<(l.length:Int):=by omega
    obtain⟨c,hc⟩:∃c,l[i]? =some c:=⟨_,List.getElem?_eq_getElem hlt⟩
    have hci:∀h:i<(bas l).size,(bas l)[i]'h=c:=λh=>by
     show(bas l).data[i]=c
     have:=List.getElem?_eq_some_iff.1 hc
     exact this.2
    have hcm:c∈l:=List.mem_of_getElem? hc
    obtain⟨n,hn⟩:∃n,c.toNat=n:=⟨_,rfl⟩
    by_cases h0:n=0
    ·have HF:Hid (b3z l=22):=by
      have:c=0:=by apply UInt8.toNat_inj.1;rw[hn,h0];rfl
      subst this
      show _=_;unfold b3z;rw[if_neg H1.out,if_pos (.inl hcm)]
     subst h0
     have hq:((0:Nat):Int)=0:=rfl
     clear hc hcm
     go_wp2_with fail
     go_ret
     exact⟨by rw[HF.out];rfl,rfl⟩
    ·have h0I:((n:Int)==0)=false:=by rw[beq_eq_false_iff_ne];omega
     by_cases h47:n=47
     ·have HF:Hid (b3z l=22):=by
       have:c=47:=by apply UInt8.toNat_inj.1;rw[hn,h47];rfl
       subst this
       show _=_;unfold b3z;rw[if_neg H1.out,if_pos (.inr hcm)]
      subst h47
      clear hc hcm
      go_wp2_with fail
      go_ret
      exact⟨by rw[HF.out];rfl,rfl⟩
     ·have h47I:((n:Int)==47)=false:=by rw[beq_eq_false_iff_ne];omega
      have HN:Hid (∀j c,j<i+1→l[j]? =some c→c≠0∧c≠47):=λj d hj hd=>by
       by_cases hji:j=i
       ·subst hji
        rw[hc]at hd;cases hd
        exact⟨λe=>by rw[e]at hn;exact h0 hn.symm,λe=>by rw[e]at hn;exact h47 hn.symm⟩
       ·exact HI.out j d (by omega) hd
      clear hc hcm
      go_wp2_with fail
      exact⟨⟨i+1,by simp,by omega,trivial,HN⟩,by simp[intOf];omega⟩
   ·obtain rfl:i=l.length:=by omega
    have hno:¬(0∈l∨47∈l):=by
     rintro(h|h)
     ·obtain⟨j,hj⟩:=List.getElem?_of_mem h
      exact(HI.out j _ (List.getElem?_eq_some_iff.1 hj).1 hj).1 rfl
     ·obtain⟨j,hj⟩:=List.getElem?_of_mem h
      exact(HI.out j _ (List.getElem?_eq_some_iff.1 hj).1 hj).2 rfl
    by_cases h64:64<l.length
    ·have h64I:(64:Int)<(l.length:Int):=by omega
     have HF:Hid (b3z l=36):=by show _=_;unfold b3z;rw[if_neg H1.out,if_neg hno,if_pos h64]
     clear hno
     go_wp2_with fail
     go_ret
     exact⟨by rw[HF.out];rfl,rfl⟩
    ·have h64I:¬(64:Int)<(l.length:Int):=by omega
     have HF:Hid (b3z l=0):=by show _=_;unfold b3z;rw[if_neg H1.out,if_neg hno,if_neg h64]
     clear hno
     go_wp2_with fail
     go_ret
     exact⟨by rw[HF.out];rfl,rfl⟩
theorem fTz (l:List UInt8) (w:World) (hs:l.length<1000000000000000):Calls Tryz.prog 65 #[.string (bas l)] w λe w'=>e=.returned (.int .i64 (nameN l))∧w'=w:=by
 have c:=e8z (bas l) w (by rw[bas_size];exact hs)
 rw[bas_data]at c
 have hsz:=bas_size l
 go_enter Tryz.func65,Tryz.ntmps65
 go_wp2_with fail
 go_loopw [3] (λii wr=>∃i:Nat,ii=.int .i64 i∧i≤l.length∧wr=w∧Hid (∀j c,j<i→l[j]? =some c→c≠1)) (λii _=>l.length-(intOf ii).toNat)
 case atStart=>exact⟨0,rfl,Nat.zero_le _,rfl,λj c hj=>by omega⟩
 case round=>
  obtain⟨i,rfl,hi,rfl,HI⟩:=hrel
  by_cases hlt:i<l.length
  ·have hltI:(i:Int)<(l.length:Int):=by omega
   obtain⟨c0,hc⟩:∃c,l[i]? =some c:=⟨_,List.getElem?_eq_getElem hlt⟩
   have hci:∀h:i<(bas l).size,(bas l)[i]'h=c0:=λh=>by
    show(bas l).data[i]=c0
    have:=List.getElem?_eq_some_iff.1 hc
    exact this.2
   have hcm:c0∈l:=List.mem_of_getElem? hc
   obtain⟨n,hn⟩:∃n,c0.toNat=n:=⟨_,rfl⟩
   by_cases h0:n=1
   ·have HF:Hid (nameN l=22):=by
     have:c0=1:=by apply UInt8.toNat_inj.1;rw[hn,h0];rfl
     subst this
     show _=_;unfold nameN;rw[if_pos hcm]
    subst h0
    have hq:((1:Nat):Int)=1:=rfl
    clear hc hcm c
    go_wp2_with fail
    go_ret
    exact⟨by rw[HF.out];rfl,rfl⟩
   ·have h0I:((n:Int)==1)=false:=by rw[beq_eq_false_iff_ne];omega
    have HN:Hid (∀j c,j<i+1→l[j]? =some c→c≠1):=λj d hj hd=>by
     by_cases hji:j=i
     ·subst hji
      rw[hc]at hd;cases hd
      exact λe=>by rw[e]at hn;exact h0 hn.symm
     ·exact HI.out j d (by omega) hd
    clear hc hcm c
    go_wp2_with fail
    exact⟨⟨i+1,by simp,by omega,trivial,HN⟩,by simp[intOf];omega⟩
  ·obtain rfl:i=l.length:=by omega
   have HF:Hid (nameN l=b3z l):=by
    show _=_;unfold nameN
    rw[if_neg]
    intro h
    obtain⟨j,hj⟩:=List.getElem?_of_mem h
    exact(HI.out j _ (List.getElem?_eq_some_iff.1 hj).1 hj) rfl
   go_wp2_with (go_at_call 98;refine adz c ?_)
   go_ret
   exact⟨by rw[HF.out];rfl,rfl⟩
end Go.Proofs.YthhakekbffembaaGreatDoor.Cd

namespace Go.Proofs.YthhakekbffembaaGreatDoor.Cd
open Go.RowKit
attribute [local go_sem] Oper.semAt_some
variable {g l c m d:Nat} {t n sq kd ot on pt pn:Int} {nm:List UInt8} {p q:Option Addr}
def OpB (W:World) (g:Nat) (t n sq kd ot on pt pn:Int) (nm:List UInt8) (p q:Option Addr) (l c m d:Nat):Prop:=W.heap[g]? =some (.cells #[.int .i64 t,.int .i64 n,.int .i64 sq,.int .i64 kd,.int .i64 ot,.int .i64 on,.int .i64 pt,.int .i64 pn,.string (bas nm),.slice p l c,.slice q m d] 33 (0,0))
theorem OpB.lt {W:World} (h:OpB W g t n sq kd ot on pt pn nm p q l c m d):g<W.heap.size:=block_lt h
theorem OpB.below {W W':World} (h:OpB W g t n sq kd ot on pt pn nm p q l c m d) (hb:Below W.heap.size W W'):OpB W' g t n sq kd ot on pt pn nm p q l c m d:=(hb.block g h.lt).trans h
theorem OpB.made (w:World) (t n sq kd ot on pt pn:Int) (nm:List UInt8) (p q:Option Addr) (l c m d:Nat):OpB (w.alloc (.cells #[.int .i64 t,.int .i64 n,.int .i64 sq,.int .i64 kd,.int .i64 ot,.int .i64 on,.int .i64 pt,.int .i64 pn,.string (bas nm),.slice p l c,.slice q m d] 33)) w.heap.size t n sq kd ot on pt pn nm p q l c m d:=heap_alloc_new w _
theorem OpB.next (w:World) (o:Obj) (t n sq kd ot on pt pn:Int) (nm:List UInt8) (p q:Option Addr) (l c m d:Nat):OpB ((w.alloc o).alloc (.cells #[.int .i64 t,.int .i64 n,.int .i64 sq,.int .i64 kd,.int .i64 ot,.int .i64 on,.int .i64 pt,.int .i64 pn,.string (bas nm),.slice p l c,.slice q m d] 33)) (w.heap.size+1) t n sq kd ot on pt pn nm p q l c m d:=by
 have:=OpB.made (w.alloc o) t n sq kd ot on pt pn nm p q l c m d
 rwa [show(w.alloc o).heap.size=w.heap.size+1 by simp]at this
theorem OpB.cells {W:World} (h:OpB W g t n sq kd ot on pt pn nm p q l c m d):
  W.cell? ⟨g,0,none⟩=some (.int .i64 t)∧W.cell? ⟨g,1,none⟩=some (.int .i64 n)∧W.cell? ⟨g,2,none⟩=some (.int .i64 sq)∧W.cell? ⟨g,3,none⟩=some (.int .i64 kd)∧W.cell? ⟨g,4,none⟩=some (.int .i64 ot)∧W.cell? ⟨g,5,none⟩=some (.int .i64 on)∧W.cell? ⟨g,6,none⟩=some (.int .i64 pt)∧W.cell? ⟨g,7,none⟩=some (.int .i64 pn)∧W.cell? ⟨g,8,none⟩=some (.string (bas nm))∧W.cell? ⟨g,9,none⟩=some (.slice p l c)∧W.cell? ⟨g,10,none⟩=some (.slice q m d):=
 ⟨cellOf h 0,cellOf h 1,cellOf h 2,cellOf h 3,cellOf h 4,cellOf h 5,cellOf h 6,cellOf h 7,cellOf h 8,cellOf h 9,cellOf h 10⟩
theorem acz {f:Nat} {args:Array Value} {w:World} {v:Ending} {K:Ending→World→Prop} (h:Calls Tryz.prog f args w λe w'=>e=v∧Below w.heap.size w w') (hk:∀w',Hid (Below w.heap.size w w')→K v w'):Calls Tryz.prog f args w K:=
 h.mono (by rintro e w' ⟨rfl,hb⟩;exact hk w' hb)
theorem root_any (w:World):Calls Tryz.prog 42 #[] w λe w'=>e=.returned (.agg #[.int .i64 0,.int .i64 0])∧Below w.heap.size w w':=by
 go_enter Tryz.func42,Tryz.ntmps42
 go_wp2
 refine bodyPost_ret (v:=.agg #[.int .i64 0,.int .i64 0]) (by simp[results,Tryz.results42,go_sem]) rfl ?_
 exact⟨rfl,(a3z w _).out⟩
theorem trash_any (w:World):Calls Tryz.prog 144 #[] w λe w'=>e=.returned (.agg #[.int .i64 0,.int .i64 1])∧Below w.heap.size w w':=by
 go_enter Tryz.func144,Tryz.ntmps144
 go_wp2
 refine bodyPost_ret (v:=.agg #[.int .i64 0,.int .i64 1]) (by simp[results,Tryz.results144,go_sem]) rfl ?_
 exact⟨rfl,(a3z w _).out⟩
abbrev idv (t n:Int):Value:=.agg #[.int .i64 t,.int .i64 n]
def aBz (t n t' n':Int):Bool:=Ck.validB t n&&Ck.lessB t n t' n'
def placedB (nm:List UInt8) (l:Nat):Bool:=decide (nameN nm=0)&&decide (l=0)
theorem eqz (it ii:Int) (t n sq kd ot on pt pn:Int) (nm:List UInt8) (p q:Option Addr) (l c m d:Nat) (w:World):
  Calls Tryz.prog 143 #[idv it ii,.agg #[.int .i64 t,.int .i64 n,.int .i64 sq,.int .i64 kd,.int .i64 ot,.int .i64 on,.int .i64 pt,.int .i64 pn,.string (bas nm),.slice p l c,.slice q m d]] w λe w'=>e=.returned (.bool (aBz it ii t n))∧Below w.heap.size w w':=by
 obtain⟨ob,hob⟩:∃ob,ob=Obj.cells #[.int .i64 it,.int .i64 ii] 28:=⟨_,rfl⟩
 obtain⟨oc,hoc⟩:∃oc,oc=Obj.cells #[.int .i64 t,.int .i64 n,.int .i64 sq,.int .i64 kd,.int .i64 ot,.int .i64 on,.int .i64 pt,.int .i64 pn,.string (bas nm),.slice p l c,.slice q m d] 33:=⟨_,rfl⟩
 have B0:Hid (Below w.heap.size w ((w.alloc ob).alloc oc)):=((Below.refl _ _).alloc (Nat.le_refl _) _).alloc (by simp) _
 have hi:((w.alloc ob).alloc oc).heap[w.heap.size]? =some (.cells #[.int .i64 it,.int .i64 ii] 28 (0,0)):=by rw[Below.heap_alloc _ _ _ (by simp),hob];exact heap_alloc_new w _
 have ho:OpB ((w.alloc ob).alloc oc) (w.heap.size+1) t n sq kd ot on pt pn nm p q l c m d:=by rw[hoc];exact OpB.next _ _ t n sq kd ot on pt pn nm p q l c m d
 have HI:=a0z hi
 have HO:=a0z ho
 have c1:=λW=>Ck.valid_any it ii W
 have c2:=λW=>Ck.less_any it ii t n W
 have tok:True:=trivial
 cases hv:Ck.validB it ii with
 |true=>
  have HE:Hid (aBz it ii t n=Ck.lessB it ii t n):=by show _=_;simp[aBz,hv]
  rw[hv]at c1
  clear hv hi ho
  subst hob;subst hoc
  go_enter Tryz.func143,Tryz.ntmps143
  go_wp2_with (first|(go_at_call 99;have tk:=tok;refine acz (c1 _) ?_;clear tk tok;intro w2 hb;have i0:w2.cell? ⟨w.heap.size,0,none⟩=some (.int .i64 it):=cellOf ((hb.out.block _ (block_lt HI.out)).trans HI.out) 0;have i1:w2.cell? ⟨w.heap.size,1,none⟩=some (.int .i64 ii):=cellOf ((hb.out.block _ (block_lt HI.out)).trans HI.out) 1;have c0:w2.cell? ⟨w.heap.size+1,0,none⟩=some (.int .i64 t):=cellOf (HO.out.below hb.out) 0;have c1':w2.cell? ⟨w.heap.size+1,1,none⟩=some (.int .i64 n):=cellOf (HO.out.below hb.out) 1)|(go_at_call 167;refine acz (c2 _) ?_;intro w3 hb3))
  go_ret
  rw[HE.out]
  exact⟨rfl,(B0.out.trans (hb.out.mono B0.out.size)).trans (hb3.out.mono (Nat.le_trans B0.out.size hb.out.size))⟩
 |false=>
  have HE:Hid (aBz it ii t n=false):=by show _=_;simp[aBz,hv]
  rw[hv]at c1
  clear hv hi ho
  subst hob;subst hoc
  go_enter Tryz.func143,Tryz.ntmps143
  go_wp2_with (go_at_call 99;refine acz (c1 _) ?_;intro w2 hb)
  go_ret
  rw[HE.out]
  exact⟨rfl,B0.out.trans (hb.out.mono B0.out.size)⟩
theorem hNz (t n sq kd ot on pt pn:Int) (nm:List UInt8) (p q:Option Addr) (l c m d:Nat) (w:World) (hs:nm.length<1000000000000000):
  Calls Tryz.prog 142 #[.agg #[.int .i64 t,.int .i64 n,.int .i64 sq,.int .i64 kd,.int .i64 ot,.int .i64 on,.int .i64 pt,.int .i64 pn,.string (bas nm),.slice p l c,.slice q m d]] w λe w'=>e=.returned (.bool (placedB nm l))∧Below w.heap.size w w':=by
 have B0:Hid (∀o,Below w.heap.size w (w.alloc o)):=λo=>(a3z w o).out
 have c1:=λW=>foz nm W hs
 obtain⟨x,hx⟩:∃x,nameN nm=x:=⟨_,rfl⟩
 rw[hx]at c1
 have HE:Hid (placedB nm l=(decide (x=0)&&decide (l=0))):=by show _=_;rw[← hx];rfl
 clear hx
 by_cases h0:x=0
 ·subst h0
  by_cases h1:l=0
  ·subst h1
   go_enter Tryz.func142,Tryz.ntmps142
   go_wp2_with (go_at_call 121;refine adz (c1 _) ?_)
   go_ret
   rw[HE.out]
   exact⟨rfl,B0.out _⟩
  ·have h1I:¬(l:Int)=0:=by omega
   go_enter Tryz.func142,Tryz.ntmps142
   go_wp2_with (go_at_call 121;refine adz (c1 _) ?_)
   go_ret
   rw[HE.out]
   exact⟨by simp[h1],B0.out _⟩
 ·go_enter Tryz.func142,Tryz.ntmps142
  go_wp2_with (go_at_call 121;refine adz (c1 _) ?_)
  go_ret
  rw[HE.out]
  exact⟨by simp[h0],B0.out _⟩
end Go.Proofs.YthhakekbffembaaGreatDoor.Cd
