import Derived.Test.YthhakekbffembaaGreatDoorQEvl
set_option maxRecDepth 8000
set_option maxHeartbeats 4000000

namespace Go.Proofs.YthhakekbffembaaGreatDoor.Ck.Y.W
open Go.RowKit Go.Maps Go.Lib
open L (a2z a6z anz a5z)
open Sh (bas Ids Nms strs bIz InI Cs ShI)
theorem gHz:∀l:List PI,aKz l=bIz l
 |[]=>rfl
 |x::l=>by show idL x++aKz l=_;rw[gHz l];rfl
structure KdI (w:World) (F:Nat→Prop) (vb:Nat) (nsf:OG→List Int) (bsf:OG→List (BitVec 8)) (m ls:List OG) (f:Nat→List UInt8) (gs:Nat) (vk:Value) (K:List PI) (i:Nat) (wr:World):Prop where
 vj:VJ w F vb nsf bsf m ls wr
 row:RowI wr w.heap.size vk K
 nms:ShI wr gs K.length i f
 off:∀g,vk.ownBlock=some g→g<gs
theorem ShI.sft {w w':World} {gs n i:Nat} {f:Nat→List UInt8} (h:ShI w gs n i f) (hs:Sft w w'):ShI w' gs n i f:=by
 obtain⟨cur,h1,h2⟩:=h
 exact⟨cur,hs.at h1 (by decide),h2⟩
theorem VW.kids {F:Nat→Prop} {w:World} {vb s:Nat} {nsf:OG→List Int} {bsf:OG→List (BitVec 8)} {m ls:List OG} {T:List OB} (h:VW F w vb nsf bsf m ls) (hT:TOk ls T s) (t n:Int) (hL:∀W,Only F w W→Sh.Lb W) {K:List PI} (hK:IsKids T t n K):
  Calls Tryz.prog 47 #[.pointer (some ⟨vb,0,none⟩),idv t n] w λe w'=>(∃v1 gs,e=.returned (.tuple #[v1,.slice (some ⟨gs,0,none⟩) K.length K.length])∧RowI w' w.heap.size v1 K∧ShI w' gs K.length K.length (Sh.shownAt K (K.map (nmT T)) K.length)∧w.heap.size≤gs)∧VJ w F vb nsf bsf m ls w':=by
 have HB:Hid (Below w.heap.size w (w.alloc (.cells #[.int .i64 t,.int .i64 n] 28)).drew):=a2z (a3z w _).out (a6z _)
 have c:=((h.below HB.out).tkids hT.fold t n).mono λe w' (k:_∧VJ _ _ _ _ _ _ _ _)=>(⟨k.1,k.2.of_below HB.out⟩:kVz (w.alloc (.cells #[.int .i64 t,.int .i64 n] 28)).drew T t n e w'∧VJ w F vb nsf bsf m ls w')
 have HT:=a0z (agz hT (agz hK hL))
 clear h hT hL hK
 go_enter Tryz.func47,Tryz.ntmps47
 go_wp2_with fail
 go_region_with (go_at_call 88;refine c.mono ?_;rintro e w1 ⟨⟨v,K',rfl,h1,h2,h3⟩,h4⟩;obtain⟨pk,ck,rfl,_⟩:=bcz h1;have H1:=a0z (agz h1 (agz h2 (agz h3 h4)));clear h1 h2 h3 h4)
 all_goals
  have HKe:Hid (K'=K):=H1.out.2.1.unique HT.out.2.1
  obtain⟨kn,hkn⟩:∃kn,K'.length=kn:=⟨_,rfl⟩
  have HKN:=a0z hkn
  have hk9:kn≤900:=by rw[← hkn];exact H1.out.2.2.1
  obtain⟨i0,hi0,hz0,hz1,hz2⟩:=Sh.ti_str.info
  obtain⟨M,hM⟩:∃M,M=madeCells (Value.string ⟨#[]⟩).cells (((kn:Nat):Int).toNat*i0.size):=⟨_,rfl⟩
  have hMs:M.size=kn:=by rw[hM,size_madeCells,hz1];simp
  have hmk:∀W:World,(Instr.makeSlice 53 (.int .i64 (kn:Int)) (.int .i64 (kn:Int))).run Tryz.prog W=.ok (.slice (some ⟨W.heap.size,0,none⟩) kn kn) (W.alloc (.cells M 9)):=λW=>by
   have h:=run_make (P:=Tryz.prog) W 53 9 i0 (.string ⟨#[]⟩) Tryz.underlying53 hi0 hz0 .i64 .i64 (kn:Int) (kn:Int) (by omega) (by omega) (by rw[hz2];omega) (by omega)
   rw[← hM]at h
   simpa using h
  have HM0:Hid (KdI w F vb nsf bsf m ls (λj=>((K'.map (nmT T))[j]?).getD []) w1.heap.size (.slice pk K'.length ck) K' 0 (w1.alloc (.cells M 9))):=
   ⟨H1.out.2.2.2.below (a3z w1 _).out,(d8z H1.out.1 (by simp)).below (a3z w1 _).out,⟨M,heap_alloc_new w1 _,by rw[hMs,hkn],λj hj=>by omega⟩,λg hg=>by obtain⟨cs,hc,_⟩:=H1.out.1.tag hg;exact block_lt hc⟩
  clear hM hMs hz0 hz1 hz2 hi0
  rw[hkn]
  clear hkn
  go_wp2_with fail
  have hgw:Hid (w.heap.size≤w1.heap.size):=by show _≤_;exact H1.out.2.2.2.size
  go_loopw [20] (λii wr=>∃(i:Nat),ii=.int .i64 i∧i≤kn∧Hid (KdI w F vb nsf bsf m ls (λj=>((K'.map (nmT T))[j]?).getD []) w1.heap.size (.slice pk K'.length ck) K' i wr)) (λii _=>kn-(RowKit.intOf ii).toNat)
  case atStart=>exact⟨0,rfl,Nat.zero_le _,HM0⟩
  case round=>
   obtain⟨i,rfl,hi,HI⟩:=hrel
   rename World=>wo
   by_cases hlt:i<kn
   ·have hltI:(i:Int)<(kn:Int):=by omega
    obtain⟨q,hq⟩:∃q,K'[i]? =some q:=⟨_,List.getElem?_eq_getElem (by rw[HKN.out];exact hlt)⟩
    have HQ:=a0z hq
    obtain⟨p1,c1,e1,hc1⟩:=bcz HI.out.row
    cases e1
    obtain⟨g1,rfl,x0,x1⟩:=hc1 i q hq
    clear hc1 hq
    go_wp2_with (refine asz rfl 28 _ _ rfl wo.heap.size (#[.int .i64 q.1,.int .i64 q.2]) rfl rfl 28 _ (heap_alloc_new wo _) aWz rfl (aNz _ _) ?_;intro w5 H5;refine Stp.out ?_)
    refine Stp.mk ?_
    have hS5:Sft wo w5:=⟨by have:=H5.out.2.2;simp at this;omega,λb cs t' fr hb _=>(H5.out.2.1.block b (by have:=block_lt hb;simp;omega) (by have:=block_lt hb;omega)).trans (((a3z wo _).out.block b (block_lt hb)).trans hb)⟩
    have hv5:VJ w F vb nsf bsf m ls w5:=(HI.out.vj.below (a3z wo (.cells #[.int .i64 0,.int .i64 0] 28)).out).put (heap_alloc_new wo _) (by decide) (by decide) HI.out.vj.size H5.out.2.1
    have H5':Hid (VJ w F vb nsf bsf m ls w5∧Sft wo w5∧w5.heap[wo.heap.size]? =some (.cells #[.int .i64 q.1,.int .i64 q.2] 28 (0,0))∧wo.heap.size<w5.heap.size):=⟨hv5,hS5,H5.out.1,block_lt H5.out.1⟩
    obtain⟨oq,hoq,eq,hplq⟩:=eXz HT.out.1.wf H1.out.2.1 (List.mem_of_getElem? HQ.out)
    have hpar:=gOz hplq
    have cP:Calls Tryz.prog 40 #[.pointer (some ⟨vb,0,none⟩),.agg #[.int .i64 q.1,.int .i64 q.2]] w5.drew λe w'=>e=.returned (.tuple #[.agg #[.int .i64 t,.int .i64 n],.string (bas (nmT T q)),.bool true])∧VJ w F vb nsf bsf m ls w'∧Sft w5.drew w':=
     (hv5.below (a6z _)).call λF' hF'=>by have:=hF'.parent HT.out.1.fold q.1 q.2;rw[hpar]at this;exact this
    have z0:w5.cell? ⟨wo.heap.size,0,none⟩=some (.int .i64 q.1):=cellOf H5.out.1 0
    have z1:w5.cell? ⟨wo.heap.size,1,none⟩=some (.int .i64 q.2):=cellOf H5.out.1 1
    have hfi:((K'.map (nmT T))[i]?).getD []=nmT T q:=by rw[List.getElem?_map,HQ.out];rfl
    have HFI:=a0z hfi
    clear hoq eq hplq hpar x0 x1 hS5 hv5 H5 hfi
    go_wp2_with fail
    generalize nmT T q=nq at*
    go_region_with (go_at_call 40;refine cP.mono ?_;rintro e w6 ⟨rfl,h6,s6⟩;have H6:Hid (VJ w F vb nsf bsf m ls w6∧Sft wo w6):=⟨h6,H5'.out.2.1.trans ((Sft.below (a6z _)).trans s6)⟩;have hS6:=ShI.sft HI.out.nms H6.out.2;obtain⟨v6,hv6⟩:=hS6.cell (show i<K'.length by rw[HKN.out];exact hlt);have hf6:=hS6.fz i;have HS6:=Lib.hid hS6;clear h6 s6 hS6 z0 z1 cP)
    all_goals
     go_wp2_with fail
     have hcur:=HS6.out
     obtain⟨cur,hb6,hsz6,_⟩:=hcur
     have hon:Only (· =w1.heap.size) w6 (w6.setCell ⟨w1.heap.size,i,none⟩ (.string (bas nq))):=Only.setCell (S:=(· =w1.heap.size)) _ _ _ rfl
     have hput:=HS6.out.put (show i<K'.length by rw[HKN.out];exact hlt)
     rw[HFI.out]at hput
     refine⟨⟨i+1,by simp,by omega,H6.out.1.put hb6 (by decide) (by decide) hgw.out hon, ?_,hput,HI.out.off⟩,by simp[RowKit.intOf];omega⟩
     obtain⟨hl,h|⟨g,cap,cur',e,h1,hb,h2⟩⟩:=dzz HI.out.row H6.out.2
     ·exact⟨hl,.inl h⟩
     ·exact⟨hl,.inr ⟨g,cap,cur',e,h1,(hon.block g (block_lt hb) (by have:=HI.out.off g (by rw[e];rfl);omega)).trans hb,h2⟩⟩
   ·obtain rfl:i=kn:=by omega
    have e:=HKe.out
    subst e
    have hap:Sh.AP K' (K'.map (nmT T)):=dTz HT.out.1 HT.out.2.1
    have cS:∀W,Below wo.heap.size wo W→Calls Tryz.prog 89 #[.slice pk i ck,.slice (some ⟨w1.heap.size,0,none⟩) i i] W λe w'=>∃gs,e=.returned (.slice (some ⟨gs,0,none⟩) i i)∧Hid (ShI w' gs i i (Sh.shownAt K' (K'.map (nmT T)) i)∧W.heap.size≤gs∧Below wo.heap.size wo w'):=λW hW=>by
     have HI2:=HI.out
     obtain⟨q1,d1,f1,hc1⟩:=Cs.of_own (Sh.own_below HI2.row hW)
     obtain⟨_,_,g1,l1⟩:=Sh.own_slice HI2.row
     cases f1;cases g1
     have hnl:(K'.map (nmT T)).length=i:=by rw[List.length_map,HKN.out]
     have hnm:Nms W (some ⟨w1.heap.size,0,none⟩) (K'.map (nmT T)):=λj x hx=>by
      obtain⟨cur,hb,_,hc⟩:=HI2.nms.below hW
      have hj:j<i:=by rw[← hnl];exact(List.getElem?_eq_some_iff.1 hx).1
      refine⟨_,0,rfl, ?_⟩
      rw[Nat.zero_add,cellOf hb j,hc j hj]
      simp only[hx,Option.getD_some]
     have:=Sh.shown_row K' (K'.map (nmT T)) pk (some ⟨w1.heap.size,0,none⟩) ck i W ((HT.out.2.2 wo HI2.vj.only).below hW) (Sh.ids_of_cs (by rw[← gHz];exact hc1)) hnm l1 (by rw[hnl];exact Nat.le_refl _) (by rw[HKN.out];omega) hap.ins hap.lens
     rw[hnl,HKN.out,Nat.min_self]at this
     refine this.mono ?_
     rintro e w' ⟨gs,rfl,hn⟩
     exact⟨gs,rfl,hn.out.1,hn.out.2.1,a2z hW hn.out.2.2⟩
    have HR:Hid (RowI wo w.heap.size (.slice pk i ck) K'):=by have:=HI.out.row;rwa [HKN.out]at this
    clear hap HM0
    go_wp2_with (go_at_call 89;refine(cS _ (by first|exact Below.refl _ _|exact a6z _)).mono ?_;rintro e w3 ⟨gs,rfl,H3⟩)
    go_ret2
    refine⟨⟨.slice pk i ck,gs,by rw[HKN.out];rfl,Sh.own_below HR.out H3.out.2.2,by rw[HKN.out];exact H3.out.1, ?_⟩,HI.out.vj.below H3.out.2.2⟩
    have:=HI.out.vj.size
    have:=H3.out.2.1
    simp at*
    omega
end Go.Proofs.YthhakekbffembaaGreatDoor.Ck.Y.W

namespace Go.Proofs.YthhakekbffembaaGreatDoor.Ck.Y.W
open Go.RowKit Go.Maps Go.Lib Go.Sort
open L (a2z a6z anz a5z)
open Sh (bas Ids Nms strs bIz InI Cs ShI)
variable {w:World} {gs:Nat}
theorem iQz:∀a:List UInt8,Lib.compareBytes a a=0
 |[]=>rfl
 |a::x=>by unfold Lib.compareBytes;rw[if_neg (by simp),if_neg (by simp)];exact iQz x
theorem dBz:∀a b:List UInt8,Lib.compareBytes a b= -Lib.compareBytes b a
 |[],[]=>rfl
 |[],_::_=>rfl
 |_::_,[]=>rfl
 |a::x,b::y=>by
  have h:=dBz x y
  unfold Lib.compareBytes
  by_cases h1:a<b
  ·rw[if_pos h1,if_neg (by rw[UInt8.lt_iff_toNat_lt]at*;omega),if_pos h1]
  ·by_cases h2:b<a
   ·rw[if_neg h1,if_pos h2,if_pos h2];rfl
   ·rw[if_neg h1,if_neg h2,if_neg h2,if_neg h1,h]
theorem eIz:∀a b:List UInt8,Lib.compareBytes a b=0→a=b
 |[],[],_=>rfl
 |[],_::_,h=>by simp[Lib.compareBytes]at h
 |_::_,[],h=>by simp[Lib.compareBytes]at h
 |a::x,b::y,h=>by
  unfold Lib.compareBytes at h
  by_cases h1:a<b
  ·rw[if_pos h1]at h;simp at h
  ·by_cases h2:b<a
   ·rw[if_neg h1,if_pos h2]at h;simp at h
   ·rw[if_neg h1,if_neg h2]at h
    have e:a=b:=by rw[UInt8.lt_iff_toNat_lt]at*;exact UInt8.toNat_inj.1 (by omega)
    rw[e,eIz x y h]
theorem ePz:∀a b c:List UInt8,Lib.compareBytes a b<0→Lib.compareBytes b c<0→Lib.compareBytes a c<0
 |_,[],_,h,k=>by
  rename_i a c
  cases a<;>simp[Lib.compareBytes]at h
 |_,_::_,[],h,k=>by simp[Lib.compareBytes]at k
 |[],_::_,_::_,h,k=>by simp[Lib.compareBytes]
 |a::x,b::y,c::z,h,k=>by
  have ih:=ePz x y z
  unfold Lib.compareBytes at h k⊢
  by_cases h1:a<b
  ·by_cases k1:b<c
   ·rw[if_pos (by rw[UInt8.lt_iff_toNat_lt]at*;omega)];decide
   ·by_cases k2:c<b
    ·rw[if_neg k1,if_pos k2]at k;simp at k
    ·rw[if_pos (by rw[UInt8.lt_iff_toNat_lt]at*;omega)];decide
  ·by_cases h2:b<a
   ·rw[if_neg h1,if_pos h2]at h;simp at h
   ·by_cases k1:b<c
    ·rw[if_pos (by rw[UInt8.lt_iff_toNat_lt]at*;omega)];decide
    ·by_cases k2:c<b
     ·rw[if_neg k1,if_pos k2]at k;simp at k
     ·rw[if_neg h1,if_neg h2]at h
      rw[if_neg k1,if_neg k2]at k
      rw[if_neg (by rw[UInt8.lt_iff_toNat_lt]at*;omega),if_neg (by rw[UInt8.lt_iff_toNat_lt]at*;omega)]
      exact ih h k
abbrev cbL:List UInt8→List UInt8→Int:=λx y=>Lib.compareBytes x y
theorem eBz (x y:List UInt8):ltOf cbL x y=decide (Lib.compareBytes x y<0):=rfl
theorem oBz:SWO (ltOf cbL) where
 irrefl x:=by rw[eBz,iQz];rfl
 trans x y z h1 h2:=by
  rw[eBz,decide_eq_true_eq]at*
  exact ePz _ _ _ h1 h2
 ntrans x y z h1 h2:=by
  rw[eBz,decide_eq_false_iff_not]at*
  intro h
  have a1:=dBz x y
  have a2:=dBz y z
  by_cases e1:Lib.compareBytes y x=0
  ·have:=eIz _ _ e1;subst this;exact h2 h
  ·by_cases e2:Lib.compareBytes z y=0
   ·have:=eIz _ _ e2;subst this;exact h1 h
   ·have:=ePz z y x (by omega) (by omega)
    have:=dBz x z
    omega
theorem lTz (x y:List UInt8) (h1:ltOf cbL x y=false) (h2:ltOf cbL y x=false):x=y:=by
 rw[eBz,decide_eq_false_iff_not]at*
 have:=dBz x y
 exact eIz _ _ (by omega)
theorem l1z (a b:ByteArray) (w:World):Calls Tryz.prog 135 #[.string a,.string b] w λe w'=>e=.returned (.int .i64 (Lib.compareBytes a.data.toList b.data.toList))∧w'=w:=by
 go_enter Tryz.func135,Tryz.ntmps135
 go_wp2
 rw[run_callFunc_extern Tryz.func173 (by kernel_rfl) (by kernel_rfl) (by kernel_rfl) (e:=Extern.BytealgCompare.compare) (by kernel_rfl),Lib.run_compareString]
 simp only[Result.andThen]
 rw[Oper.upon_value]
 go_wp2
 go_ret
 exact⟨rfl,rfl⟩
theorem cez (a b:ByteArray) (w:World):Calls Tryz.prog 92 #[.string a,.string b] w λe w'=>e=.returned (.int .i64 (Lib.compareBytes a.data.toList b.data.toList))∧w'=w:=by
 have c:=l1z a b w
 go_enter Tryz.func92,Tryz.ntmps92
 go_wp2_with (go_at_call 135;refine adz c ?_)
 go_ret
 exact⟨rfl,rfl⟩
abbrev EnF:=List UInt8→PI×Bool×Int
variable {en:EnF}
abbrev dDz (en:EnF) (x:List UInt8):List Value:=[.string (bas x),.int .i64 (en x).1.1,.int .i64 (en x).1.2,.bool (en x).2.1,.int .i64 (en x).2.2]
theorem ixz (en:EnF) (x y:List UInt8) (w:World):Calls Tryz.prog 50 #[.agg (dDz en x).toArray,.agg (dDz en y).toArray] w λe w'=>e=.returned (.int .i64 (Lib.compareBytes x y))∧∃q os',w'=grow (w.drewN q) os':=by
 have c:=λW=>cez (bas x) (bas y) W
 simp only[Sh.bas_data]at c
 generalize Lib.compareBytes x y=r at*
 go_enter Tryz.func50,Tryz.ntmps50
 go_wp2_with (go_at_call 92;refine(c _).mono ?_;rintro e w' ⟨rfl,rfl⟩)
 go_ret
 exact⟨rfl,0,_,by rw[alloc_eq_grow,alloc_eq_grow,grow_grow];rfl⟩
def EntI (w:World) (gs n i:Nat) (en:EnF) (L:List (List UInt8)):Prop:=∃cur,w.heap[gs]? =some (.cells cur 69 (0,0))∧cur.size=n*5∧∀j,j<i→∀x,L[j]? =some x→∀c,c<5→cur[j*5+c]? =some ((dDz en x)[c]!)
theorem EntI.below {w':World} {n i:Nat} {L:List (List UInt8)} (h:EntI w gs n i en L) (hb:Below w.heap.size w w'):EntI w' gs n i en L:=by
 obtain⟨cur,h1,h2⟩:=h
 exact⟨cur,(hb.block gs (block_lt h1)).trans h1,h2⟩
theorem EntI.sft {w':World} {n i:Nat} {L:List (List UInt8)} (h:EntI w gs n i en L) (hs:Sft w w'):EntI w' gs n i en L:=by
 obtain⟨cur,h1,h2⟩:=h
 exact⟨cur,hs.at h1 (by decide),h2⟩
instance:Inhabited (List UInt8):=⟨[]⟩
theorem EntI.holds {L:List (List UInt8)} (h:EntI w gs L.length L.length en L):HoldsK (dDz en) 5 w gs 0 L.toArray:=by
 obtain⟨cur,h1,h2,h3⟩:=h
 intro t ht
 rw[size_flatK]at ht
 simp only[List.size_toArray]at ht
 rw[get_flatK _ _ _ _ (by simpa using ht),Nat.zero_add]
 have hj:t/5<L.length:=by omega
 have hx:=h3 (t/5) hj L[t/5] (List.getElem?_eq_getElem hj) (t%5) (by omega)
 rw[show t/5*5+t%5=t by omega]at hx
 refine⟨?_,aez h1 t⟩
 rw[cellOf h1 t,hx]
 simp[hj]
theorem EntI.of_holds {d:Array (List UInt8)} {cur:Array Value} (h1:w.heap[gs]? =some (.cells cur 69 (0,0))) (h2:cur.size=d.size*5) (h:HoldsK (dDz en) 5 w gs 0 d):EntI w gs d.size d.size en d.toList:=by
 refine⟨cur,h1,h2,λj hj x hx c hc=> ?_⟩
 have:=(h.cell hj hc).1
 rw[Nat.zero_add,cellOf h1]at this
 rw[this]
 have e:d[j]! =x:=by
  rw[Array.getElem?_toList]at hx
  simp[Array.getElem!_eq_getD,hx]
 rw[e]
theorem iqz (enc:List UInt8→List Value) (w:World) (blk m:Nat) (dk:Array (List UInt8)) (os:Array Obj):Only (· =blk) w (sortWorldK enc 5 w blk 0 m dk os):=by
 refine⟨rfl,rfl,rfl,size_sortWorldK_c enc 5 w blk 0 m dk os,λk hk hn=> ?_⟩
 show(_++os)[k]? =_
 rw[Array.getElem?_append_left (by simp[putRowK,putRow,mapBlock,hk])]
 simp only[putRowK,putRow,mapBlock,Array.getElem?_modify]
 rw[if_neg (λe=>hn e.symm)]
 rfl
theorem gXz (enc:List UInt8→List Value) (w:World) (blk m:Nat) (dk:Array (List UInt8)) (os:Array Obj) {cur:Array Value} {t:TypeId} (h:w.heap[blk]? =some (.cells cur t (0,0))):∃cur',(sortWorldK enc 5 w blk 0 m dk os).heap[blk]? =some (.cells cur' t (0,0))∧cur'.size=cur.size:=by
 refine⟨putCells id 0 (flatK enc 5 dk) cur, ?_,by simp[putCells]⟩
 show(_++os)[blk]? =_
 rw[Array.getElem?_append_left (by simp[putRowK,putRow,mapBlock,block_lt h])]
 simp only[putRowK,putRow,mapBlock,Array.getElem?_modify]
 rw[if_pos trivial]
 show Option.map _ w.heap[blk]? =_
 rw[h]
 rfl
def mjz (L:List (List UInt8)):List (List UInt8):=L.mergeSort λx y=> !ltOf cbL y x
theorem lqz (en:EnF) (L:List (List UInt8)) (gs cap:Nat) (w:World) (h:EntI w gs L.length L.length en L) (hl:L.length<1000000):
  Calls Tryz.prog 49 #[.slice (some ⟨gs,0,none⟩) L.length cap,.func (.func 50) #[] #[]] w λe w'=>e=.returned (.tuple #[])∧Hid (EntI w' gs L.length L.length en (mjz L)∧Only (· =gs) w w'):=by
 have eg:∀args w,(callFunc 50 args).run Tryz.prog w=.ok (.enter 50 args) w:=enters_of Tryz.func50 (by kernel_rfl) rfl
 obtain⟨cur,h1,h2,_⟩:=id h
 have hsz:L.toArray.size=L.length:=by simp
 have:=AnyQ.slices_SortFunc_total Tryz.sortE 5 Tryz.isAgg69 Tryz.sizeOf69 (dDz en) (λ_=>rfl) (λx v hv=>by simp[dDz]at hv;rcases hv with rfl|rfl|rfl|rfl|rfl<;>rfl) cbL oBz 50 #[] gs 0 cap L.toArray w eg (λ_ _ _ _ x y=>ixz en x y _) h.holds (block_lt h1) (by rw[hsz];omega) lTz
 rw[hsz]at this
 refine Calls.mono this ?_
 rintro e w' ⟨rfl,n,os,rfl⟩
 refine⟨rfl, ?_,iqz _ _ _ _ _ _⟩
 obtain⟨cur',b1,b2⟩:=gXz (dDz en) w gs n (L.mergeSort λx y=> !ltOf cbL y x).toArray os h1
 have hsz2:(L.mergeSort λx y=> !ltOf cbL y x).toArray.size=L.length:=by rw[List.size_toArray];exact(List.mergeSort_perm _ _).length_eq
 have:=EntI.of_holds (en:=en) b1 (by rw[b2,h2,hsz2]) (holdsK_sortWorldK_c (dDz en) 5 w gs 0 L.toArray _ n os h.holds (block_lt h1) (by rw[hsz2,hsz]))
 rw[hsz2]at this
 exact this
end Go.Proofs.YthhakekbffembaaGreatDoor.Ck.Y.W

namespace Go.Proofs.YthhakekbffembaaGreatDoor.Ck.Y.W
open Go.RowKit Go.Maps Go.Lib Go.Sort
open L (a2z a6z anz a5z IsHd aRz)
open Sh (bas Ids Nms strs bIz InI Cs ShI)
variable {w:World} {gs n i:Nat} {en:EnF}
theorem ti_ent:Sh.TI 69 (.agg #[.string ⟨#[]⟩,.int .i64 0,.int .i64 0,.bool false,.int .i64 0]) 5 48:=Sh.ti_of (by kernel_rfl) (by decide) (by decide)
abbrev okz (w:World) (g o:Nat) (x0 x1 x2 x3 x4:Value):World:=((((w.setCell ⟨g,o,none⟩ x0).setCell ⟨g,o+1,none⟩ x1).setCell ⟨g,o+2,none⟩ x2).setCell ⟨g,o+3,none⟩ x3).setCell ⟨g,o+4,none⟩ x4
theorem kAz (w:World) (g o:Nat) (x0 x1 x2 x3 x4:Value):Only (· =g) w (okz w g o x0 x1 x2 x3 x4):=
 ((((Only.setCell (S:=(· =g)) _ _ _ rfl).next (Only.setCell (S:=(· =g)) _ _ _ rfl)).next (Only.setCell (S:=(· =g)) _ _ _ rfl)).next (Only.setCell (S:=(· =g)) _ _ _ rfl)).next (Only.setCell (S:=(· =g)) _ _ _ rfl)
theorem EntI.put {L:List (List UInt8)} (h:EntI w gs n i en L) (hi:i<n) {x:List UInt8} (hx:L[i]? =some x):EntI (okz w gs (i*5) (.string (bas x)) (.int .i64 (en x).1.1) (.int .i64 (en x).1.2) (.bool (en x).2.1) (.int .i64 (en x).2.2)) gs n (i+1) en L:=by
 obtain⟨cur,h1,h2,h3⟩:=h
 refine⟨_,a7z (a7z (a7z (a7z (a7z h1 _) _) _) _) _,by simp[h2],λj hj y hy c hc=> ?_⟩
 by_cases hji:j=i
 ·subst hji
  rw[hx]at hy
  obtain rfl:=Option.some.inj hy
  have hb:j*5+4<cur.size:=by omega
  match c,hc with
  |0,_|1,_|2,_|3,_|4,_=>simp[Array.getElem?_setIfInBounds,dDz];omega
  |c+5,h=>omega
 ·rw[Array.getElem?_setIfInBounds,if_neg (by omega),Array.getElem?_setIfInBounds,if_neg (by omega),Array.getElem?_setIfInBounds,if_neg (by omega),Array.getElem?_setIfInBounds,if_neg (by omega),Array.getElem?_setIfInBounds,if_neg (by omega)]
  exact h3 j (by omega) y hy c hc
theorem EntI.cell {L:List (List UInt8)} (h:EntI w gs n i en L) {k:Nat} (hk:k<n*5):∃v,w.cell? ⟨gs,k,none⟩=some v:=by
 obtain⟨cur,h1,h2,h3⟩:=h
 exact⟨_,(cellOf h1 k).trans (Array.getElem?_eq_getElem (by omega))⟩
theorem EntI.fz {L:List (List UInt8)} (h:EntI w gs n i en L) (k:Nat):w.frozen? ⟨gs,k,none⟩=false:=by
 obtain⟨cur,h1,h2,h3⟩:=h
 exact aez h1 k
theorem kNz {w':World} {g:Nat} {f:Nat→List UInt8} (h:ShI w gs n i f) (ho:Only (· =g) w w') (hne:gs≠g):ShI w' gs n i f:=by
 obtain⟨cur,h1,h2⟩:=h
 exact⟨cur,(ho.block gs (block_lt h1) hne).trans h1,h2⟩
theorem fJz {w':World} {b g:Nat} {v:Value} {l:List PI} (h:RowI w b v l) (ho:Only (· =g) w w') (hne:∀x,v.ownBlock=some x→x≠g):RowI w' b v l:=by
 obtain⟨hl,h|⟨x,cap,cur',e,h1,hb,h2⟩⟩:=h
 ·exact⟨hl,.inl h⟩
 ·exact⟨hl,.inr ⟨x,cap,cur',e,h1,(ho.block x (block_lt hb) (hne x (by rw[e];rfl))).trans hb,h2⟩⟩
structure LsI (w:World) (F:Nat→Prop) (vb:Nat) (nsf:OG→List Int) (bsf:OG→List (BitVec 8)) (m ls:List OG) (f:Nat→List UInt8) (en:EnF) (N:List (List UInt8)) (gs ge:Nat) (vk:Value) (K:List PI) (i:Nat) (wr:World):Prop where
 vj:VJ w F vb nsf bsf m ls wr
 row:RowI wr w.heap.size vk K
 nms:ShI wr gs K.length K.length f
 ent:EntI wr ge K.length i en N
 off:∀g,vk.ownBlock=some g→g<ge
 lt:gs<ge
def opz (T:List OB) (t n:Int) (lv:Bool) (en:EnF) (N:List (List UInt8)) (base:Nat) (e:Ending) (w':World):Prop:=
 (lv=false∧e=.returned (.tuple #[.slice none 0 0,.int .i64 2]))∨(lv=true∧aAz T t n=false∧e=.returned (.tuple #[.slice none 0 0,.int .i64 20]))∨
 (lv=true∧aAz T t n=true∧∃ge,e=.returned (.tuple #[.slice (some ⟨ge,0,none⟩) N.length N.length,.int .i64 0])∧EntI w' ge N.length N.length en (mjz N)∧base≤ge)
theorem VW.list {F:Nat→Prop} {vb s:Nat} {nsf:OG→List Int} {bsf:OG→List (BitVec 8)} {m ls:List OG} {T:List OB} (h:VW F w vb nsf bsf m ls) (hT:TOk ls T s) (t n:Int) {lv:Bool} (hlv:lv=true↔(t=0∧n=0)∨Bel T (t,n) (0,0)) (hq:∀q,∀x∈vsq nsf bsf m q,1≤x.sq) (hL:∀W,Only F w W→Sh.Lb W) {K:List PI} (hK:IsKids T t n K) (hk9:K.length≤900)
  {HC:PI→List L.VC} (hs:∀q,IsHd (vsq nsf bsf m q) (HC q)) (en:EnF) (hen:∀i q,K[i]? =some q→en (Sh.shownAt K (K.map (nmT T)) K.length i)=(q,aAz T q.1 q.2,szE (aAz T q.1 q.2) (HC q))):
  Calls Tryz.prog 20 #[.pointer (some ⟨vb,0,none⟩),idv t n] w λe w'=>opz T t n lv en (Sh.shownL K (K.map (nmT T)) K.length) w.heap.size e w'∧VJ w F vb nsf bsf m ls w':=by
 have HB:Hid (Below w.heap.size w (w.alloc (.cells #[.int .i64 t,.int .i64 n] 28))):=a3z w _
 obtain⟨A,hA⟩:∃A,A=w.alloc (.cells #[.int .i64 t,.int .i64 n] 28):=⟨_,rfl⟩
 have hi:A.heap[w.heap.size]? =some (.cells #[.int .i64 t,.int .i64 n] 28 (0,0)):=by rw[hA];exact heap_alloc_new w _
 have HV:Hid (VJ w F vb nsf bsf m ls A):=by rw[hA];exact(VJ.start h).below (a3z w _).out
 have HI:=a0z hi
 have HA:=a0z hA
 have cLv:∀W,VJ w F vb nsf bsf m ls W→Calls Tryz.prog 24 #[.pointer (some ⟨vb,0,none⟩),.agg #[.int .i64 t,.int .i64 n]] W λe w'=>e=.returned (.bool lv)∧VJ w F vb nsf bsf m ls w'∧Sft W w':=λW hW=>hW.call λF' hF'=>hF'.live hT.fold t n hlv
 have cDr:∀W,VJ w F vb nsf bsf m ls W→Calls Tryz.prog 43 #[.pointer (some ⟨vb,0,none⟩),.agg #[.int .i64 t,.int .i64 n]] W λe w'=>e=.returned (.bool (aAz T t n))∧VJ w F vb nsf bsf m ls w'∧Sft W w':=λW hW=>hW.call λF' hF'=>hF'.dir hT.fold t n
 have HD:=(show Hid _ from cDr)
 have HKd:Hid (∀W,VJ w F vb nsf bsf m ls W→Calls Tryz.prog 47 #[.pointer (some ⟨vb,0,none⟩),.agg #[.int .i64 t,.int .i64 n]] W λe w'=>(∃v1 gs,e=.returned (.tuple #[v1,.slice (some ⟨gs,0,none⟩) K.length K.length])∧RowI w' W.heap.size v1 K∧ShI w' gs K.length K.length (Sh.shownAt K (K.map (nmT T)) K.length)∧W.heap.size≤gs)∧VJ w F vb nsf bsf m ls w'∧Sft W w'):=λW hW=>
  hW.callO λF' hF' hO=>hF'.kids hT t n (λW' hW'=>hL W' (hO W' hW')) hK
 have HEn:Hid (∀W,VJ w F vb nsf bsf m ls W→∀(q:PI) (x:List UInt8),Calls Tryz.prog 48 #[.pointer (some ⟨vb,0,none⟩),.agg #[.int .i64 q.1,.int .i64 q.2],.string (bas x)] W λe w'=>e=.returned (.agg (kgz x q (aAz T q.1 q.2) (szE (aAz T q.1 q.2) (HC q))))∧VJ w F vb nsf bsf m ls w'∧Sft W w'):=λW hW q x=>
  hW.call λF' hF'=>hF'.entry hT q x hq (hs q)
 have HE:=a0z hen
 obtain⟨k,hk⟩:∃k,K.length=k:=⟨_,rfl⟩
 have HKL:=a0z hk
 have hk9':k≤900:=by rw[← hk];exact hk9
 have HN:Hid ((Sh.shownL K (K.map (nmT T)) k).length=k∧∀i,i<k→(Sh.shownL K (K.map (nmT T)) k)[i]? =some (Sh.shownAt K (K.map (nmT T)) k i)):=⟨by unfold Sh.shownL;simp,λi hi=>by unfold Sh.shownL;simp[hi]⟩
 rw[hk]at HKd HE⊢
 generalize hf:Sh.shownAt K (K.map (nmT T)) k=f at*
 generalize hNn:Sh.shownL K (K.map (nmT T)) k=N at*
 obtain⟨dr,hdr⟩:∃dr,aAz T t n=dr:=⟨_,rfl⟩
 have HDR:=a0z hdr
 rw[hdr]at HD
 have cL0:=cLv A HV.out
 have y0:A.cell? ⟨w.heap.size,0,none⟩=some (.int .i64 t):=cellOf hi 0
 have y1:A.cell? ⟨w.heap.size,1,none⟩=some (.int .i64 n):=cellOf hi 1
 rw[hA]at y0 y1 cL0
 clear h hT hlv hq hL hK hk9 hs hen hi hA HB cLv cDr hdr hf hNn hk
 go_enter Tryz.func20,Tryz.ntmps20
 cases lv with
 |false=>
  go_wp2_with (go_at_call 24;refine cL0.mono ?_;rintro e w5 ⟨rfl,h5,s5⟩)
  go_ret2
  exact⟨.inl ⟨rfl,rfl⟩,h5⟩
 |true=>
  go_wp2_with (go_at_call 24;refine cL0.mono ?_;rintro e w5 ⟨rfl,h5,s5⟩;have H5:Hid (VJ w F vb nsf bsf m ls w5∧w5.heap[w.heap.size]? =some (.cells #[.int .i64 t,.int .i64 n] 28 (0,0))):=⟨h5,by rw[← HA.out]at s5;exact s5.at HI.out (by decide)⟩;have z0:w5.cell? ⟨w.heap.size,0,none⟩=some (.int .i64 t):=cellOf H5.out.2 0;have z1:w5.cell? ⟨w.heap.size,1,none⟩=some (.int .i64 n):=cellOf H5.out.2 1;clear h5 s5 y0 y1 cL0)
  have cD:=HD.out w5.drew (H5.out.1.below (a6z _))
  cases dr with
  |false=>
   go_region_with (go_at_call 43;refine cD.mono ?_;rintro e w6 ⟨rfl,h6,s6⟩;have H6:=a0z h6;clear h6 s6 z0 z1 cD)
   all_goals
    go_wp2_with fail
    go_ret2
    exact⟨.inr (.inl ⟨rfl,HDR.out,rfl⟩),H6.out⟩
  |true=>
   go_region_with (go_at_call 43;refine cD.mono ?_;rintro e w6 ⟨rfl,h6,s6⟩;have H6:Hid (VJ w F vb nsf bsf m ls w6∧w6.heap[w.heap.size]? =some (.cells #[.int .i64 t,.int .i64 n] 28 (0,0))):=⟨h6,s6.at (show w5.drew.heap[w.heap.size]? =_ from H5.out.2) (by decide)⟩;clear h6 s6 z0 z1 cD)
   all_goals
    have z0:w6.cell? ⟨w.heap.size,0,none⟩=some (.int .i64 t):=cellOf H6.out.2 0
    have z1:w6.cell? ⟨w.heap.size,1,none⟩=some (.int .i64 n):=cellOf H6.out.2 1
    have cK:=HKd.out w6 H6.out.1
    obtain⟨i0,hi0,hz0,hz1,hz2⟩:=ti_ent.info
    obtain⟨M,hM⟩:∃M,M=madeCells (Value.agg #[.string ⟨#[]⟩,.int .i64 0,.int .i64 0,.bool false,.int .i64 0]).cells (((k:Nat):Int).toNat*i0.size):=⟨_,rfl⟩
    have hMs:M.size=k*5:=by rw[hM,size_madeCells,hz1];simp
    have hmk:∀W:World,(Instr.makeSlice 57 (.int .i64 (k:Int)) (.int .i64 (k:Int))).run Tryz.prog W=.ok (.slice (some ⟨W.heap.size,0,none⟩) k k) (W.alloc (.cells M 69)):=λW=>by
     have h:=run_make (P:=Tryz.prog) W 57 69 i0 (.agg #[.string ⟨#[]⟩,.int .i64 0,.int .i64 0,.bool false,.int .i64 0]) Tryz.underlying57 hi0 hz0 .i64 .i64 (k:Int) (k:Int) (by omega) (by omega) (by rw[hz2];omega) (by omega)
     rw[← hM]at h
     simpa using h
    have HMS:=a0z hMs
    clear hM hz0 hz1 hz2 hi0 hMs
    go_wp2_with (go_at_call 47;refine cK.mono ?_;rintro e w7 ⟨⟨v1,gs,rfl,k1,k2,k3⟩,h7,s7⟩;obtain⟨pk,ck,rfl⟩:∃p c,v1=.slice p k c:=(by have:=bcz k1;rw[HKL.out]at this;obtain⟨p,c,e,_⟩:=this;exact⟨p,c,e⟩);have H7:=a0z (agz h7 (agz k1 (agz k2 k3)));clear k1 k2 k3 h7 s7 z0 z1 cK)
    have hgs7:gs<w7.heap.size:=by obtain⟨cur,hb,_⟩:=H7.out.2.2.1;exact block_lt hb
    have HGS:Hid (gs<w7.heap.size∧w.heap.size≤w7.heap.size):=⟨hgs7,H7.out.1.size⟩
    have hoff:∀g,(Value.slice pk k ck).ownBlock=some g→g<w7.heap.size:=λg hg=>by obtain⟨cs,hc,_⟩:=H7.out.2.1.tag hg;exact block_lt hc
    have HM0:Hid (LsI w F vb nsf bsf m ls f en N gs w7.heap.size (.slice pk k ck) K 0 (w7.alloc (.cells M 69))):=
     ⟨H7.out.1.below (a3z w7 _).out,(d8z H7.out.2.1 H6.out.1.size).below (a3z w7 _).out,by rw[HKL.out];exact H7.out.2.2.1.below (a3z w7 _).out,⟨M,heap_alloc_new w7 _,by rw[HMS.out,HKL.out],λj hj=>by omega⟩,hoff,hgs7⟩
    clear hgs7 hoff
    go_loopw [32] (λii wr=>∃(i:Nat),ii=.int .i64 i∧i≤k∧Hid (LsI w F vb nsf bsf m ls f en N gs w7.heap.size (.slice pk k ck) K i wr)) (λii _=>k-(RowKit.intOf ii).toNat)
    case atStart=>exact⟨0,rfl,Nat.zero_le _,HM0⟩
    case round=>
     obtain⟨i,rfl,hi,HI⟩:=hrel
     rename World=>wo
     by_cases hlt:i<k
     ·have hltI:(i:Int)<(k:Int):=by omega
      obtain⟨q,hq⟩:∃q,K[i]? =some q:=⟨_,List.getElem?_eq_getElem (by rw[HKL.out];exact hlt)⟩
      have HQ:=a0z hq
      obtain⟨p1,c1,e1,hc1⟩:=bcz HI.out.row
      rw[HKL.out]at e1
      cases e1
      obtain⟨g1,rfl,x0,x1⟩:=hc1 i q hq
      clear hc1 hq
      go_wp2_with (refine asz rfl 28 _ _ rfl wo.heap.size (#[.int .i64 q.1,.int .i64 q.2]) rfl rfl 28 _ (heap_alloc_new wo _) aWz rfl (aNz _ _) ?_;intro w5 H5;refine Stp.out ?_)
      refine Stp.mk ?_
      have hS5:Sft wo w5:=⟨by have:=H5.out.2.2;simp at this;omega,λb cs t' fr hb _=>(H5.out.2.1.block b (by have:=block_lt hb;simp;omega) (by have:=block_lt hb;omega)).trans (((a3z wo _).out.block b (block_lt hb)).trans hb)⟩
      have hv5:VJ w F vb nsf bsf m ls w5:=(HI.out.vj.below (a3z wo (.cells #[.int .i64 0,.int .i64 0] 28)).out).put (heap_alloc_new wo _) (by decide) (by decide) HI.out.vj.size H5.out.2.1
      have H5':=a0z (agz hv5 hS5)
      have cE:=HEn.out w5.drew (hv5.below (a6z _)) q (f i)
      have z0:w5.cell? ⟨wo.heap.size,0,none⟩=some (.int .i64 q.1):=cellOf H5.out.1 0
      have z1:w5.cell? ⟨wo.heap.size,1,none⟩=some (.int .i64 q.2):=cellOf H5.out.1 1
      have zn:w5.cell? ⟨gs,i,none⟩=some (.string (bas (f i))):=by
       obtain⟨cur,hb,hsz,hc⟩:=ShI.sft HI.out.nms hS5
       rw[cellOf hb i]
       exact hc i (by rw[HKL.out];exact hlt)
      have hE:=HE.out i q HQ.out
      have HEN:=a0z hE
      have HFI:Hid (N[i]? =some (f i)):=HN.out.2 i hlt
      generalize hdq:aAz T q.1 q.2=dq at*
      generalize hsq:szE dq (HC q)=sq at*
      generalize hfi:f i=fi at*
      clear hdq hsq hfi hE x0 x1 hS5 hv5 H5
      go_wp2_with fail
      go_region_with (go_at_call 48;refine cE.mono ?_;rintro e w6 ⟨rfl,h6,s6⟩;have H6:Hid (VJ w F vb nsf bsf m ls w6∧Sft wo w6):=⟨h6,H5'.out.2.trans ((Sft.below (a6z _)).trans s6)⟩;have hE6:=EntI.sft HI.out.ent H6.out.2;rw[HKL.out]at hE6;obtain⟨v0,k0⟩:=hE6.cell (k:=i*5) (by omega);obtain⟨v1,k1⟩:=hE6.cell (k:=i*5+1) (by omega);obtain⟨v2,k2⟩:=hE6.cell (k:=i*5+2) (by omega);obtain⟨v3,k3⟩:=hE6.cell (k:=i*5+3) (by omega);obtain⟨v4,k4⟩:=hE6.cell (k:=i*5+4) (by omega);have f0:=hE6.fz (i*5);have f1:=hE6.fz (i*5+1);have f2:=hE6.fz (i*5+2);have f3:=hE6.fz (i*5+3);have f4:=hE6.fz (i*5+4);have HE6:=Lib.hid hE6;clear h6 s6 hE6 z0 z1 zn cE)
      all_goals
       go_wp2_with fail
       have hput:=HE6.out.put hlt HFI.out
       rw[HEN.out]at hput
       obtain⟨cur,hb6,_⟩:=HE6.out
       have hon:=kAz w6 w7.heap.size (i*5) (.string (bas fi)) (.int .i64 q.1) (.int .i64 q.2) (.bool dq) (.int .i64 sq)
       exact⟨⟨i+1,by simp,by omega,H6.out.1.put hb6 (by decide) (by decide) HGS.out.2 hon,fJz (dzz HI.out.row H6.out.2) hon (λx hx=>Nat.ne_of_lt (HI.out.off x hx)),kNz (ShI.sft HI.out.nms H6.out.2) hon (Nat.ne_of_lt HI.out.lt),by rw[HKL.out];exact hput,HI.out.off,HI.out.lt⟩,by simp[RowKit.intOf];omega⟩
     ·obtain rfl:i=k:=by omega
      have cS:∀W,Below wo.heap.size wo W→Calls Tryz.prog 49 #[.slice (some ⟨w7.heap.size,0,none⟩) i i,.func (.func 50) #[] #[]] W λe w'=>e=.returned (.tuple #[])∧Hid (EntI w' w7.heap.size i i en (mjz N)∧VJ w F vb nsf bsf m ls w'):=λW hW=>by
       have hE:=HI.out.ent.below hW
       have hV:=HI.out.vj.below hW
       rw[HKL.out]at hE
       obtain⟨cur,hb,_⟩:=id hE
       have:=lqz en N w7.heap.size i W (by rw[HN.out.1];exact hE) (by rw[HN.out.1];omega)
       rw[HN.out.1]at this
       refine this.mono ?_
       rintro e w' ⟨rfl,h⟩
       exact⟨rfl,h.out.1,hV.put hb (by decide) (by decide) HGS.out.2 h.out.2⟩
      clear HM0
      go_wp2_with (go_at_call 49;refine(cS _ (by first|exact Below.refl _ _|exact a6z _)).mono ?_;rintro e w3 ⟨rfl,H3⟩)
      go_ret2
      exact⟨.inr (.inr ⟨rfl,HDR.out,w7.heap.size,by rw[HN.out.1];rfl,by rw[HN.out.1];exact H3.out.1,HGS.out.2⟩),H3.out.2⟩
end Go.Proofs.YthhakekbffembaaGreatDoor.Ck.Y.W
