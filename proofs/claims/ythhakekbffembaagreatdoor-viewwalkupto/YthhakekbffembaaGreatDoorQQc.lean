import Derived.Test.YthhakekbffembaaGreatDoorQQf
set_option maxRecDepth 8000
set_option maxHeartbeats 4000000

namespace Go.Proofs.YthhakekbffembaaGreatDoor.Ck.Y
open Go.RowKit Go.Maps
variable {w wr:World} {l:List OG} {i g c:Nat} {T:List GE} {xe:GE}
def bxz (T:List GE) (k:Nat) (x:GE):List GE:=T.take k++x::T.drop k
structure DocI (w wr:World) (l:List OG) (i:Nat) (v:Value) (T:List GE):Prop where
 row:RowG wr w.heap.size v (T.map a8z)
 perm:T.Perm (bwz 0 (l.take i))
 rise:fGz gAz T
 bel:Below w.heap.size w wr
theorem DocI.len {v:Value} (h:DocI w wr l i v T) (hi:i≤l.length):T.length=i:=by
 rw[h.perm.length_eq,cvz,List.length_take];omega
structure DocK (w wr:World) (T:List GE) (xe:GE) (k i g c:Nat):Prop where
 row:RowG wr w.heap.size (.slice (some ⟨g,0,none⟩) (i+1) c) ((bxz T k xe).map a8z)
 less:∀a∈T.drop k,lessB xe.o.t xe.o.n a.o.t a.o.n=true
 bel:Below w.heap.size w wr
theorem hJz {w0 w':World} {v:Value} {B:Nat} (hb:Below B w0 w) (hB:B≤w.heap.size) (hr:RowG w B v l) (hg:w.grownBy w' v.ownBlock):Below B w0 w':=
 ⟨hg.os.trans hb.os,hg.tape.trans hb.tape,hg.output.trans hb.output,Nat.le_trans hb.size hg.size,λk hk=>(hg.block k (by omega) (λe=>by
  obtain⟨_,_,h⟩:=hr.tag e.symm
  omega)).trans (hb.block k hk)⟩
theorem jrz (T:List GE) (k:Nat) (x:GE):(bxz T k x).Perm (T++[x]):=by
 unfold bxz
 have h1:(T.take k++x::T.drop k).Perm (x::(T.take k++T.drop k)):=List.perm_middle
 rw[List.take_append_drop]at h1
 exact h1.trans (List.perm_append_comm (l₁:=[x]) (l₂:=T))
theorem DocK.done {k:Nat} {x:OG} (h:DocK w wr T xe k i g c) (hp:T.Perm (bwz 0 (l.take i))) (hrise:fGz gAz T) (hxe:xe=⟨x,i⟩) (hx:l[i]? =some x) (hr:ghz l) (hl:l.length≤1000) (hs:k=0∨∃b,T[k-1]? =some b∧lessB xe.o.t xe.o.n b.o.t b.o.n=false):DocI w wr l (i+1) (.slice (some ⟨g,0,none⟩) (i+1) c) (bxz T k xe):=by
 have hil:=(List.getElem?_eq_some_iff.1 hx).1
 have hrt:ghz (l.take i):=λy hy=>hr y (List.mem_of_mem_take hy)
 have ok:∀a∈T,a.ok∧a.came<i:=λa ha=>by
  have hm:=hp.mem_iff.1 ha
  refine⟨gZz hrt (by rw[List.length_take];omega) a hm, ?_⟩
  have:=(dkz _ 0 a hm).2
  rw[List.length_take]at this
  omega
 have okx:xe.ok:=by rw[hxe];exact⟨hr x (List.mem_of_getElem? hx),by show i<1000000;omega⟩
 have hcx:xe.came=i:=by rw[hxe]
 refine⟨h.row, ?_,koz hrise (λa ha=> ?_) (λa ha=> ?_),h.bel⟩
 ·refine(jrz T k xe).trans ?_
  have e:l.take (i+1)=l.take i++[x]:=by rw[List.take_add_one,hx];rfl
  rw[e,f3z,hxe,List.length_take,show 0+min i l.length=i by omega]
  exact hp.append_right _
 ·rcases hs with h0|⟨b,hb,hlb⟩
  ·subst h0;simp at ha
  ·have hbm:=List.mem_of_getElem? hb
   have k1:gAz b<gAz xe:=by
    rw[gnz (ok b hbm).1 okx]
    refine .inr ⟨hlb, ?_⟩
    have:=(ok b hbm).2
    omega
   obtain⟨j,hj,e⟩:=List.getElem_of_mem ha
   rw[List.length_take]at hj
   rw[List.getElem_take]at e
   have hbl:=List.getElem?_eq_some_iff.1 hb
   obtain⟨hkl,hbe⟩:=hbl
   by_cases hjk:j=k-1
   ·subst hjk
    rw[← e,hbe]
    exact k1
   ·have:=(List.pairwise_iff_getElem.1 hrise) j (k-1) (by omega) hkl (by omega)
    rw[e,hbe]at this
    omega
 ·rw[gnz okx (ok a (List.mem_of_mem_drop ha)).1]
  exact .inl (h.less a ha)
theorem DocK.below {W:World} {k:Nat} (h:DocK w wr T xe k i g c) (hb:Below wr.heap.size wr W):DocK w W T xe k i g c:=⟨h.row.below hb,h.less,h.bel.trans (hb.mono h.bel.size)⟩
theorem k2z {b:GE} {kk:Nat} (hb:T[kk]? =some b):((((bxz T (kk+1) xe).map a8z).set kk (a8z xe)).set (kk+1) (a8z b))=(bxz T kk xe).map a8z:=by
 have hk:=(List.getElem?_eq_some_iff.1 hb).1
 have e0:T.drop kk=b::T.drop (kk+1):=by
  rw[List.drop_eq_getElem_cons hk]
  have:=(List.getElem?_eq_some_iff.1 hb).2
  rw[this]
 have e1:T.take (kk+1)=T.take kk++[b]:=by rw[List.take_add_one,hb];rfl
 have hl:(T.take kk).length=kk:=by rw[List.length_take];omega
 rw[← List.map_set,← List.map_set]
 congr 1
 unfold bxz
 rw[e0,e1,List.append_assoc]
 rw[List.set_append_right kk _ (by omega),hl,Nat.sub_self]
 rw[List.set_append_right (kk+1) _ (by omega),hl,show kk+1-kk=1 by omega]
 rfl
theorem DocK.swap {W W2 W3 W4:World} {b:GE} {kk:Nat} (h:DocK w W T xe (kk+1) i g c) (hb:T[kk]? =some b) (hle:lessB xe.o.t xe.o.n b.o.t b.o.n=true) (hB2:Below W.heap.size W W2) (ho3:Only (· =g) W2 W3) (ho4:Only (· =g) W3 W4) (hrow:RowG W4 w.heap.size (.slice (some ⟨g,0,none⟩) (i+1) c) ((((bxz T (kk+1) xe).map a8z).set kk (a8z xe)).set (kk+1) (a8z b))):DocK w W4 T xe kk i g c:=by
 have hk:=(List.getElem?_eq_some_iff.1 hb).1
 have hgb:w.heap.size≤g:=by obtain⟨_,_,_,hb,_⟩:=h.row.cur;exact hb
 rw[k2z hb]at hrow
 refine⟨hrow,λa ha=> ?_, ?_⟩
 ·rw[List.drop_eq_getElem_cons hk,(List.getElem?_eq_some_iff.1 hb).2,List.mem_cons]at ha
  rcases ha with rfl|ha
  ·exact hle
  ·exact h.less a ha
 ·have h1:=h.bel.trans (hB2.mono h.bel.size)
  exact⟨ho4.os.trans (ho3.os.trans h1.os),ho4.tape.trans (ho3.tape.trans h1.tape),ho4.output.trans (ho3.output.trans h1.output),Nat.le_trans h1.size (Nat.le_trans ho3.size ho4.size),λk hk=>by
   have s1:=h1.size
   have s2:=ho3.size
   rw[ho4.block k (by omega) (by omega),ho3.block k (by omega) (by omega)]
   exact h1.block k hk⟩
theorem i1z {Q:Exit→Act→World→Prop} {base:Array Value} {dd:List Deferred} {ops:Array Oper} (hops:Tryz.f75.body.bind (alz 7)=some ops)  (w9:World) (hsz:base.size=61) (b5:base.getD 5 undef=iV 0) (hQ:∀W,Below w9.heap.size w9 W→Q .normal ⟨abz base [(some 24,iV 0),(some 25,.bool false),(some 26,.bool false),(some 27,undef),(some 28,undef),(some 29,undef),(some 30,undef),(some 31,undef),(some 32,undef),(some 33,undef),(some 34,undef),(some 35,undef),(some 36,undef),(some 37,undef),(some 38,undef),(some 39,.bool false)],dd⟩ W):
  (Code.region 7 ops true).wp Tryz.prog Q ⟨base,dd⟩ w9:=by
 obtain rfl:=Option.some.inj ((show Tryz.f75.body.bind (alz 7)=some _ from rfl).symm.trans hops);clear hops
 refine rU (by kernel_rfl) 61 hsz (by kernel_rfl) rfl hQ λLL hLe b W Ii Oo a hS hcl ho hb hd ev kp yl=> ?_
 have vv2:aaz LL 2=.bool false:=vL hLe rfl
 have Vv:=aV hLe;have Ee:=aE hLe rfl ev
 have e5:=(kp 5 (by kernel_rfl)).trans b5
 simp only[AV,AE,Nat.zero_add,Nat.reduceAdd,and_true]at Vv Ee
 match Ii with
 |0|1|2|15=>simp only[qq]at ho;subst ho;have hd:=aD hd;simp only[AD,and_true]at hd;simp only[Vv];exact dV (by simp[execOp,go_sem,Ee,e5,hd]) hS
 |3|4|5|6|7|8|9|10|11|12|13|14=>simp only[qq]at ho;subst ho;exact a1z rfl (yl 2 26 false rfl (hG hd 2) vv2) (by decide) (vL hLe rfl) (hS)
 |k+16=>simp at ho
theorem mIz {Q:Exit→Act→World→Prop} {base:Array Value} {dd:List Deferred} {ops:Array Oper} (hops:Tryz.f75.body.bind (alz 7)=some ops) (gl m cl K kk:Nat) (xt xn yt yn:Int) (r:Bool) (w9:World) (hsz:base.size=61) (b3:base.getD 3 undef=.slice (some ⟨gl,0,none⟩) m cl) (b5:base.getD 5 undef=iV (K:Nat)) (hK:0<K) (hKm:K<m) (hkm:kk<m) (hsub:(K:Int)-1=(kk:Nat)) (hwr:IntKind.i64.wrap (kk:Int)=(kk:Int)) (hx0:w9.cell? ⟨gl,K*11,none⟩=some (iV xt)) (hx1:w9.cell? ⟨gl,K*11+1,none⟩=some (iV xn)) (hy0:w9.cell? ⟨gl,kk*11,none⟩=some (iV yt)) (hy1:w9.cell? ⟨gl,kk*11+1,none⟩=some (iV yn)) (cK:∀W,Below w9.heap.size w9 W→Calls Tryz.prog 97 #[idv xt xn,idv yt yn] W λe w'=>e=.returned (.bool r)∧Below W.heap.size W w') (hQ:∀W,Below w9.heap.size w9 W→Q .normal ⟨abz base [(some 24,iV (K:Nat)),(some 25,.bool true),(some 26,.bool true),(some 27,.slice (some ⟨gl,0,none⟩) m cl),(some 28,iV (K:Nat)),(some 29,.pointer (some ⟨gl,K*11,none⟩)),(some 30,.pointer (some ⟨gl,K*11,none⟩)),(some 31,.agg #[iV xt,iV xn]),(some 32,.slice (some ⟨gl,0,none⟩) m cl),(some 33,iV (K:Nat)),(some 34,iV (kk:Nat)),(some 35,.pointer (some ⟨gl,kk*11,none⟩)),(some 36,.pointer (some ⟨gl,kk*11,none⟩)),(some 37,.agg #[iV yt,iV yn]),(some 38,.bool r),(some 39,.bool r)],dd⟩ W):
  (Code.region 7 ops true).wp Tryz.prog Q ⟨base,dd⟩ w9:=by
 obtain rfl:=Option.some.inj ((show Tryz.f75.body.bind (alz 7)=some _ from rfl).symm.trans hops);clear hops
 refine rU (by kernel_rfl) 61 hsz (by kernel_rfl) rfl hQ λLL hLe b W Ii Oo a hS hcl ho hb hd ev kp yl=> ?_
 have vv2:aaz LL 2=.bool true:=vL hLe rfl
 have vv7:aaz LL 7=.agg #[iV xt,iV xn]:=vL hLe rfl
 have vv12:aaz LL 12=.pointer (some ⟨gl,kk*11,none⟩):=vL hLe rfl
 have vv13:aaz LL 13=.agg #[iV yt,iV yn]:=vL hLe rfl
 have vv14:aaz LL 14=.bool r:=vL hLe rfl
 have Vv:=aV hLe;have Ee:=aE hLe rfl ev
 have e5:=(kp 5 (by kernel_rfl)).trans b5
 have e3:=(kp 3 (by kernel_rfl)).trans b3
 have d9_0:=(hS.cell (p:=⟨gl,K*11,none⟩) (a4z hx0)).trans hx0
 have d9_1:=(hS.cell (p:=⟨gl,K*11+1,none⟩) (a4z hx1)).trans hx1
 simp only[AV,AE,Nat.zero_add,Nat.reduceAdd,and_true]at Vv Ee
 match Ii with
 |0|1|2|15=>simp only[qq]at ho;subst ho;have hd:=aD hd;simp only[AD,and_true]at hd;simp only[Vv];exact dV (by simp[execOp,go_sem,Ee,e5,hK,hd]) hS
 |3|4|5|6|7|8|9|10|11|12=>simp only[qq]at ho;subst ho;have hy:=yl 2 26 true rfl (hG hd 2) (by simp only[Vv]);have hd:=aD hd;simp only[AD,and_true]at hd;simp only[Vv];exact dG hy (by simp[execOp,go_sem,Ee,d9_0,d9_1,e3,e5,hKm,hd,hkm,hsub,hwr]) hS
 |13=>simp only[qq]at ho;subst ho;have e36:=eD ev hd 12 36 vv12;have d9_0:=(hS.cell (p:=⟨gl,kk*11,none⟩) (a4z hy0)).trans hy0;have d9_1:=(hS.cell (p:=⟨gl,kk*11+1,none⟩) (a4z hy1)).trans hy1;rw[vv13];exact dG (yl 2 26 true rfl (hG hd 2) vv2) (by simp[execOp,go_sem,e36,d9_0,d9_1]) hS
 |14=>
  simp only[qq]at ho;subst ho;have e31:=eD ev hd 7 31 vv7;have e37:=eD ev hd 13 37 vv13;rw[vv14]
  refine apz rfl (yl 2 26 true rfl (hG hd 2) vv2) nofun (f:=97) (args:= #[.agg #[iV xt,iV xn],.agg #[iV yt,iV yn]]) ?_ ?_
  ·simp[go_sem,e31,e37]
  ·exact(cK W hS).mono (λe w' h=>⟨h.1,hS.trans (h.2.mono hS.size)⟩)
 |k+16=>simp at ho
theorem gIz (base:Nat) (v:Value) (l:List OG) (w:World) (h:RowG w base v l) (hr:ghz l) (hl:l.length≤1000):
  Calls Tryz.prog 75 #[v] w λe w'=>∃v' m,e=.returned v'∧RowG w' w.heap.size v' m∧bMz l m∧Below w.heap.size w w':=by
 obtain⟨p,c,rfl⟩:=h.slice
 have H0:=a0z (agz h hr)
 have HS:Hid (DocI w w l 0 (.slice none 0 0) []):=⟨RowG.nil _ _,by simp[bwz],List.Pairwise.nil,Below.refl _ _⟩
 clear h hr
 go_enter Tryz.func75,Tryz.ntmps75
 go_wp2_with fail
 go_loopw [3,4] (λvl vi wr=>∃(i:Nat) (p':Option Addr) (c':Nat) (T:List GE),vl=.slice p' i c'∧vi=.int .i64 i∧i≤l.length∧Hid (DocI w wr l i (.slice p' i c') T)) (λ_ vi _=>l.length-(intOf vi).toNat)
 case atStart=>exact⟨0,none,0,[],rfl,rfl,Nat.zero_le _,HS⟩
 case round=>
  clear HS
  obtain⟨i,p',c',T,rfl,rfl,hi,HI⟩:=hrel
  by_cases hil:i=l.length
  ·subst hil
   go_wp2_with fail
   go_ret
   refine⟨_,T.map a8z,rfl,HI.out.row,⟨T,rfl, ?_,HI.out.rise⟩,HI.out.bel⟩
   have:=HI.out.perm
   rwa [List.take_length]at this
  ·have hlt:i<l.length:=by omega
   have hlI:(i:Int)<(l.length:Int):=by omega
   obtain⟨x,hx⟩:∃x,l[i]? =some x:=⟨_,List.getElem?_eq_getElem hlt⟩
   have hW:=H0.out.1.below HI.out.bel
   obtain⟨g,cap,cur,ev,_⟩:=hW.form (by omega)
   cases ev
   obtain⟨x0,x1,x2,x3,x4,x5,x6,x7,x8,x9,x10⟩:=hW.cells hx
   have HA:Hid (∀o,RowG (wr.alloc o) w.heap.size (.slice p' i c') (T.map a8z)):=λo=>HI.out.row.below (a3z wr o).out
   have hTl:=HI.out.len hi
   have HT:Hid (T.length=i∧(T.map a8z).length=i):=⟨hTl,by rw[List.length_map,hTl]⟩
   have hsz:w.heap.size≤wr.heap.size:=HI.out.bel.size
   clear hW
   go_wp2_with (refine wpList_appG rfl _ _ rfl w.heap.size (.slice p' i c') (T.map a8z) x rfl wr.heap.size rfl ⟨HA.out _,heap_alloc_new wr _,by rw[HT.out.2];omega,by simp;omega⟩ ?_;intro p2 c2 w2 H2;refine Stop.out ?_)
   refine Stop.mk ?_
   obtain⟨xe,hxe⟩:∃xe:GE,xe=⟨x,i⟩:=⟨_,rfl⟩
   have HK:∃g2,p2=some ⟨g2,0,none⟩∧Hid (DocK w w2 T xe i i g2 c2):=by
    obtain⟨k1,k2,_⟩:=H2.out
    rw[HT.out.2]at k1
    obtain⟨g2,cap2,cur2,e2,_⟩:=k1.form (by simp)
    have e3:p2=some ⟨g2,0,none⟩:=by injection e2
    subst e3
    refine⟨g2,rfl, ?_, ?_,hJz (HI.out.bel.trans ((a3z wr _).out.mono hsz)) (by simp;omega) (HA.out _) k2⟩
    ·have:(bxz T i xe).map a8z=T.map a8z++[x]:=by
      unfold bxz
      rw[List.take_of_length_le (by rw[HT.out.1];exact Nat.le_refl _),List.drop_of_length_le (by rw[HT.out.1];exact Nat.le_refl _),List.map_append,hxe]
      rfl
     rw[this]
     exact k1
    ·intro a ha
     rw[List.drop_of_length_le (by rw[HT.out.1];exact Nat.le_refl _)]at ha
     cases ha
   obtain⟨g2,rfl,HK⟩:=HK
   have HX:=a0z (agz hxe hx)
   have eI:((i+1:Nat):Int)-1=(i:Int):=by omega
   have hi1000:i<1000:=by omega
   clear H2 hxe hx x0 x1 x2 x3 x4 x5 x6 x7 x8 x9 x10 HA hsz
   go_wp2_with fail
   go_loopw [5] (λvk wr2=>∃k:Nat,vk=.int .i64 k∧k≤i∧Hid (DocK w wr2 T xe k i g2 c2)) (λvk _=>(intOf vk).toNat)
   case atStart=>exact⟨i,rfl,Nat.le_refl _,HK⟩
   case round=>
    clear HK
    obtain⟨k,rfl,hk,HK⟩:=hrel
    by_cases h0:k=0
    ·subst h0
     go_wp2_with fail
     refine i1z (by kernel_rfl) _ rfl rfl ?_
     intro W hS
     have HW:=a0z hS
     clear hS
     simp only[abz,sA,sB,sC]
     go_wp2_with fail
     go_roundw
     case rel=>exact⟨i+1,_,_,bxz T 0 xe,rfl,rfl,by omega,(HK.out.below HW.out).done HI.out.perm HI.out.rise HX.out.1 HX.out.2 H0.out.2 hl (.inl rfl)⟩
     case measure=>simp[intOf];omega
    ·obtain⟨kk,rfl⟩:∃kk,k=kk+1:=⟨k-1,by omega⟩
     obtain⟨b,hb⟩:∃b,T[kk]? =some b:=⟨_,List.getElem?_eq_getElem (by have:=HT.out.1;omega)⟩
     have hkT:kk<T.length:=by have:=HT.out.1;omega
     have e1:((bxz T (kk+1) xe).map a8z)[kk+1]? =some (a8z xe):=by
      unfold bxz
      rw[List.getElem?_map,List.getElem?_append_right (by rw[List.length_take];omega),List.length_take,show kk+1-min (kk+1) T.length=0 by omega]
      rfl
     have e2:((bxz T (kk+1) xe).map a8z)[kk]? =some (a8z b):=by
      unfold bxz
      rw[List.getElem?_map,List.getElem?_append_left (by rw[List.length_take];omega),List.getElem?_take,if_pos (by omega),hb]
      rfl
     have HX2:=a0z (agz hb (agz hkT (agz e1 e2)))
     obtain⟨x0,x1,x2,x3,x4,x5,x6,x7,x8,x9,x10⟩:=HK.out.row.cells e1
     obtain⟨y0,y1,y2,y3,y4,y5,y6,y7,y8,y9,y10⟩:=HK.out.row.cells e2
     have HXY:=a0z (agz x0 (agz x1 (agz y0 y1)))
     clear hb hkT e1 e2 x0 x1 x2 x3 x4 x5 x6 x7 x8 x9 x10 y0 y1 y2 y3 y4 y5 y6 y7 y8 y9 y10
     obtain⟨K,hK⟩:∃K,K=kk+1:=⟨_,rfl⟩
     rw[← hK]at HXY hk HK HX2⊢
     have HKk:=a0z hK
     have hK0:0<K:=by omega
     have hKm:K<i+1:=by omega
     have hkm:kk<i+1:=by omega
     have hsub:(K:Int)-1=(kk:Nat):=by omega
     clear hK
     go_wp2_with fail
     refine mIz (by kernel_rfl) g2 (i+1) c2 K kk xe.o.t xe.o.n b.o.t b.o.n (lessB xe.o.t xe.o.n b.o.t b.o.n) _ rfl rfl rfl hK0 hKm hkm hsub (by rw[IntKind.wrap_i64];omega) HXY.out.1 HXY.out.2.1 HXY.out.2.2.1 HXY.out.2.2.2 (λW _=>rless_any _ _ _ _ W) ?_
     intro W hS
     have HW:=a0z hS
     clear hS
     simp only[abz,sA,sB,sC]
     cases hle:lessB xe.o.t xe.o.n b.o.t b.o.n
     ·go_wp2_with fail
      go_roundw
      case rel=>exact⟨i+1,_,_,bxz T K xe,rfl,rfl,by omega,(HK.out.below HW.out).done HI.out.perm HI.out.rise HX.out.1 HX.out.2 H0.out.2 hl (.inr ⟨b,by rw[HKk.out];exact HX2.out.1,hle⟩)⟩
      case measure=>simp[intOf];omega
     ·have HLE:=a0z hle
      have hWr:=HK.out.row.below HW.out
      obtain⟨x0,x1,x2,x3,x4,x5,x6,x7,x8,x9,x10⟩:=hWr.cells HX2.out.2.2.1
      obtain⟨y0,y1,y2,y3,y4,y5,y6,y7,y8,y9,y10⟩:=hWr.cells HX2.out.2.2.2
      have lg:g2<W.heap.size:=by obtain⟨cur,hcur,_⟩:=hWr.cur;exact block_lt hcur
      have n1:¬g2=W.heap.size:=by omega
      have n2:¬g2=W.heap.size+1:=by omega
      have n3:¬W.heap.size=g2:=by omega
      have n4:¬W.heap.size+1=g2:=by omega
      clear hle hWr
      go_wp2_with fail
      go_region
      ·generalize hW2:((W.alloc (.cells #[.int .i64 (a8z b).t,.int .i64 (a8z b).n,.int .i64 (a8z b).sq,.int .i64 (a8z b).kd,.int .i64 (a8z b).ot,.int .i64 (a8z b).on,.int .i64 (a8z b).pt,.int .i64 (a8z b).pn,.string (a8z b).nm,.slice (a8z b).dp (a8z b).dl (a8z b).dc,.slice (a8z b).sp (a8z b).sl (a8z b).sc] 33)).alloc (.cells #[.int .i64 (a8z xe).t,.int .i64 (a8z xe).n,.int .i64 (a8z xe).sq,.int .i64 (a8z xe).kd,.int .i64 (a8z xe).ot,.int .i64 (a8z xe).on,.int .i64 (a8z xe).pt,.int .i64 (a8z xe).pn,.string (a8z xe).nm,.slice (a8z xe).dp (a8z xe).dl (a8z xe).dc,.slice (a8z xe).sp (a8z xe).sl (a8z xe).sc] 33)).drew=W2
       have hA:W2.heap[W.heap.size]? =some (.cells (bhz (a8z b)) 33 (0,0)):=by rw[← hW2];exact heap_alloc2_old W _ _
       have hB:W2.heap[W.heap.size+1]? =some (.cells (bhz (a8z xe)) 33 (0,0)):=by rw[← hW2];exact heap_alloc2_new W _ _
       have hB2:Below W.heap.size W W2:=by
        rw[← hW2]
        have:=(b0z W (.cells #[.int .i64 (a8z b).t,.int .i64 (a8z b).n,.int .i64 (a8z b).sq,.int .i64 (a8z b).kd,.int .i64 (a8z b).ot,.int .i64 (a8z b).on,.int .i64 (a8z b).pt,.int .i64 (a8z b).pn,.string (a8z b).nm,.slice (a8z b).dp (a8z b).dl (a8z b).dc,.slice (a8z b).sp (a8z b).sl (a8z b).sc] 33) (.cells #[.int .i64 (a8z xe).t,.int .i64 (a8z xe).n,.int .i64 (a8z xe).sq,.int .i64 (a8z xe).kd,.int .i64 (a8z xe).ot,.int .i64 (a8z xe).on,.int .i64 (a8z xe).pt,.int .i64 (a8z xe).pn,.string (a8z xe).nm,.slice (a8z xe).dp (a8z xe).dl (a8z xe).dc,.slice (a8z xe).sp (a8z xe).sl (a8z xe).sc] 33)).out
        exact⟨this.os,this.tape,this.output,this.size,this.block⟩
       have HR2:Hid (RowG W2 w.heap.size (.slice (some ⟨g2,0,none⟩) (i+1) c2) ((bxz T K xe).map a8z)∧kk<((bxz T K xe).map a8z).length):=⟨(HK.out.row.below HW.out).below hB2,(List.getElem?_eq_some_iff.1 HX2.out.2.2.2).1⟩
       have HKl:Hid (K<((bxz T K xe).map a8z).length):=(List.getElem?_eq_some_iff.1 HX2.out.2.2.1).1
       obtain⟨z0,z1,z2,z3,z4,z5,z6,z7,z8,z9,z10⟩:=bLz hB
       have H2:=a0z (agz hB2 hA)
       clear hW2 hA hB hB2 x0 x1 x2 x3 x4 x5 x6 x7 x8 x9 x10 y0 y1 y2 y3 y4 y5 y6 y7 y8 y9 y10
       go_wp2_with (refine cdz rfl _ _ rfl w.heap.size g2 (i+1) c2 kk ((bxz T K xe).map a8z) (a8z xe) rfl rfl HR2 ?_;intro W3 H3;refine Stop.out ?_)
       refine Stop.mk ?_
       have hA3:=(H3.out.2.1.block _ (block_lt H2.out.2) (by omega)).trans H2.out.2
       obtain⟨v0,v1,v2,v3,v4,v5,v6,v7,v8,v9,v10⟩:=bLz hA3
       have HR3:Hid (RowG W3 w.heap.size (.slice (some ⟨g2,0,none⟩) (i+1) c2) (((bxz T K xe).map a8z).set kk (a8z xe))∧K<(((bxz T K xe).map a8z).set kk (a8z xe)).length):=⟨H3.out.1,by rw[List.length_set];exact HKl.out⟩
       clear hA3 z0 z1 z2 z3 z4 z5 z6 z7 z8 z9 z10
       go_wp2_with (refine cdz rfl _ _ rfl w.heap.size g2 (i+1) c2 K (((bxz T K xe).map a8z).set kk (a8z xe)) (a8z b) rfl rfl HR3 ?_;intro W4 H4;refine Stop.out ?_)
       refine Stop.mk ?_
       clear v0 v1 v2 v3 v4 v5 v6 v7 v8 v9 v10
       go_wp2_with fail
       go_roundw
       case rel=>
        refine⟨kk,rfl,by omega, ?_⟩
        obtain⟨k1,k2,k3⟩:=H4.out
        have hD:=HK.out.below HW.out
        have e:=HKk.out
        subst e
        exact hD.swap HX2.out.1 HLE.out H2.out.1 H3.out.2.1 k2 k1
       case measure=>simp[intOf];omega
      ·generalize hW2:((W.alloc (.cells #[.int .i64 (a8z xe).t,.int .i64 (a8z xe).n,.int .i64 (a8z xe).sq,.int .i64 (a8z xe).kd,.int .i64 (a8z xe).ot,.int .i64 (a8z xe).on,.int .i64 (a8z xe).pt,.int .i64 (a8z xe).pn,.string (a8z xe).nm,.slice (a8z xe).dp (a8z xe).dl (a8z xe).dc,.slice (a8z xe).sp (a8z xe).sl (a8z xe).sc] 33)).alloc (.cells #[.int .i64 (a8z b).t,.int .i64 (a8z b).n,.int .i64 (a8z b).sq,.int .i64 (a8z b).kd,.int .i64 (a8z b).ot,.int .i64 (a8z b).on,.int .i64 (a8z b).pt,.int .i64 (a8z b).pn,.string (a8z b).nm,.slice (a8z b).dp (a8z b).dl (a8z b).dc,.slice (a8z b).sp (a8z b).sl (a8z b).sc] 33)).drew=W2
       have hA:W2.heap[W.heap.size+1]? =some (.cells (bhz (a8z b)) 33 (0,0)):=by rw[← hW2];exact heap_alloc2_new W _ _
       have hB:W2.heap[W.heap.size]? =some (.cells (bhz (a8z xe)) 33 (0,0)):=by rw[← hW2];exact heap_alloc2_old W _ _
       have hB2:Below W.heap.size W W2:=by
        rw[← hW2]
        have:=(b0z W (.cells #[.int .i64 (a8z xe).t,.int .i64 (a8z xe).n,.int .i64 (a8z xe).sq,.int .i64 (a8z xe).kd,.int .i64 (a8z xe).ot,.int .i64 (a8z xe).on,.int .i64 (a8z xe).pt,.int .i64 (a8z xe).pn,.string (a8z xe).nm,.slice (a8z xe).dp (a8z xe).dl (a8z xe).dc,.slice (a8z xe).sp (a8z xe).sl (a8z xe).sc] 33) (.cells #[.int .i64 (a8z b).t,.int .i64 (a8z b).n,.int .i64 (a8z b).sq,.int .i64 (a8z b).kd,.int .i64 (a8z b).ot,.int .i64 (a8z b).on,.int .i64 (a8z b).pt,.int .i64 (a8z b).pn,.string (a8z b).nm,.slice (a8z b).dp (a8z b).dl (a8z b).dc,.slice (a8z b).sp (a8z b).sl (a8z b).sc] 33)).out
        exact⟨this.os,this.tape,this.output,this.size,this.block⟩
       have HR2:Hid (RowG W2 w.heap.size (.slice (some ⟨g2,0,none⟩) (i+1) c2) ((bxz T K xe).map a8z)∧kk<((bxz T K xe).map a8z).length):=⟨(HK.out.row.below HW.out).below hB2,(List.getElem?_eq_some_iff.1 HX2.out.2.2.2).1⟩
       have HKl:Hid (K<((bxz T K xe).map a8z).length):=(List.getElem?_eq_some_iff.1 HX2.out.2.2.1).1
       obtain⟨z0,z1,z2,z3,z4,z5,z6,z7,z8,z9,z10⟩:=bLz hB
       have H2:=a0z (agz hB2 hA)
       clear hW2 hA hB hB2 x0 x1 x2 x3 x4 x5 x6 x7 x8 x9 x10 y0 y1 y2 y3 y4 y5 y6 y7 y8 y9 y10
       go_wp2_with (refine cdz rfl _ _ rfl w.heap.size g2 (i+1) c2 kk ((bxz T K xe).map a8z) (a8z xe) rfl rfl HR2 ?_;intro W3 H3;refine Stop.out ?_)
       refine Stop.mk ?_
       have hA3:=(H3.out.2.1.block _ (block_lt H2.out.2) (by omega)).trans H2.out.2
       obtain⟨v0,v1,v2,v3,v4,v5,v6,v7,v8,v9,v10⟩:=bLz hA3
       have HR3:Hid (RowG W3 w.heap.size (.slice (some ⟨g2,0,none⟩) (i+1) c2) (((bxz T K xe).map a8z).set kk (a8z xe))∧K<(((bxz T K xe).map a8z).set kk (a8z xe)).length):=⟨H3.out.1,by rw[List.length_set];exact HKl.out⟩
       clear hA3 z0 z1 z2 z3 z4 z5 z6 z7 z8 z9 z10
       go_wp2_with (refine cdz rfl _ _ rfl w.heap.size g2 (i+1) c2 K (((bxz T K xe).map a8z).set kk (a8z xe)) (a8z b) rfl rfl HR3 ?_;intro W4 H4;refine Stop.out ?_)
       refine Stop.mk ?_
       clear v0 v1 v2 v3 v4 v5 v6 v7 v8 v9 v10
       go_wp2_with fail
       go_roundw
       case rel=>
        refine⟨kk,rfl,by omega, ?_⟩
        obtain⟨k1,k2,k3⟩:=H4.out
        have hD:=HK.out.below HW.out
        have e:=HKk.out
        subst e
        exact hD.swap HX2.out.1 HLE.out H2.out.1 H3.out.2.1 k2 k1
       case measure=>simp[intOf];omega
end Go.Proofs.YthhakekbffembaaGreatDoor.Ck.Y

namespace Go.Proofs.YthhakekbffembaaGreatDoor.Ck.Y
open Go.RowKit Go.Maps
theorem jvz (base g s:Nat) (T:List OB) (o:OG) (w:World) (h:TreeY w base g T s) (hr:Ranked T) (hl:T.length<999999) (hs:s<1000000):Calls Tryz.prog 76 #[.pointer (some ⟨g,0,none⟩),b2z o] w (cHz base g s T o w):=by
 obtain⟨t,n,sq,kd,ot,on,pt,pn,nm,dp,dl,dc,sp,sl,sc⟩:=o
 by_cases h1:kd=1
 ·subst h1
  exact h6z 1 true (.inl ⟨rfl,rfl⟩) base g s T t n sq ot on pt pn nm dp dl dc sp sl sc w h hl hs
 ·by_cases h2:kd=2
  ·subst h2
   exact h6z 2 false (.inr ⟨rfl,rfl⟩) base g s T t n sq ot on pt pn nm dp dl dc sp sl sc w h hl hs
  ·by_cases h3:kd=3
   ·subst h3
    exact kHz base g s T t n sq ot on pt pn nm dp dl dc sp sl sc w h hr hs
   ·exact kYz kd h1 h2 h3 base g s T t n sq ot on pt pn nm dp dl dc sp sl sc w h
structure FoldI (w wr:World) (v:Value) (m:List OG) (g i:Nat) (T:List OB) (s:Nat):Prop where
 fold:FoldT [] 0 (m.take i) T s
 tree:TreeY wr w.heap.size g T s
 row:RowG wr w.heap.size v m
 bel:Below w.heap.size w wr
 wf:WfT T
 small:T.length≤i∧s≤i
theorem FoldI.step {w wr w':World} {v:Value} {m:List OG} {g i s:Nat} {T:List OB} {o:OG} {e:Ending} (h:FoldI w wr v m g i T s) (ho:m[i]? =some o) (h0:¬o.ot=0) (hp:cHz w.heap.size g s T o wr e w'):e=.returned (.tuple #[])∧∃T' s',FoldI w w' v m g (i+1) T' s':=by
 obtain⟨he,T',s',h1,h2,h3⟩:=hp
 have hlen:=h1.length
 refine⟨he,T',s', ?_,h2,h.row.fy h3,h.bel.trans (h3.toBelow h.bel.size),h.wf.step h1 h0, ?_⟩
 ·rw[List.take_add_one,ho]
  exact h.fold.snoc h1
 ·have:=h.small
  omega
theorem jBz (base:Nat) (v:Value) (l:List OG) (w:World) (h:RowG w base v l) (hr:ghz l) (hl:l.length≤1000) (h0:∀o∈l,¬o.ot=0):
  Calls Tryz.prog 29 #[v] w λe w'=>∃g m T s,e=.returned (.pointer (some ⟨g,0,none⟩))∧bMz l m∧FoldT [] 0 m T s∧WfT T∧TreeY w' w.heap.size g T s∧Below w.heap.size w w':=by
 have cS:=gIz base v l w h hr hl
 have H0:=a0z h0
 clear h hr h0
 go_enter Tryz.func29,Tryz.ntmps29
 go_wp2_with fail
 go_at_call 75
 refine cS.mono ?_
 rintro e w1 ⟨v',m,rfl,hrow,hsort,hB⟩
 clear cS
 obtain⟨p,c,rfl⟩:=hrow.slice
 have hml:m.length≤1000:=by rw[ecz hsort];exact hl
 have HS:Hid (bMz l m∧∀o∈m,¬o.ot=0):=⟨hsort,λo ho=>H0.out o ((fgz hsort).mem_iff.1 ho)⟩
 have HI0:Hid (FoldI w (w1.alloc (.cells #[.slice none 0 0,.int .i64 0] 51)) (.slice p m.length c) m w1.heap.size 0 [] 0):=by
  have hB1:=(a3z w1 (.cells #[.slice none 0 0,.int .i64 0] 51)).out
  exact⟨by rw[List.take_zero];exact .nil _ _,⟨hB.size,⟨_,heap_alloc_new w1 _,rfl,.inl ⟨rfl,rfl⟩⟩,by simp⟩,hrow.below hB1,hB.trans (hB1.mono hB.size),WfT.nil,by simp⟩
 obtain⟨g,hg⟩:∃g,w1.heap.size=g:=⟨_,rfl⟩
 obtain⟨k,hk⟩:∃k,m.length=k:=⟨_,rfl⟩
 have HM:=a0z hk
 rw[hk]at hml HI0⊢
 clear hrow hsort hB hk
 go_wp2_with fail
 rw[hg]at HI0
 clear hg
 go_loopw [5] (λvi wr=>∃(i:Nat) (T:List OB) (s:Nat),vi=.int .i64 i∧i≤k∧Hid (FoldI w wr (.slice p k c) m g i T s)) (λvi _=>k-(intOf vi).toNat)
 case atStart=>exact⟨0,[],0,rfl,Nat.zero_le _,HI0⟩
 case round=>
  clear HI0
  obtain⟨i,T,s,rfl,hi,HI⟩:=hrel
  by_cases hik:i=k
  ·subst hik
   go_wp2_with fail
   go_ret
   have hf:=HI.out.fold
   rw[← HM.out,List.take_length]at hf
   exact⟨g,m,T,s,rfl,HS.out.1,hf,HI.out.wf,HI.out.tree,HI.out.bel⟩
  ·have hlt:i<k:=by omega
   obtain⟨x,hx⟩:∃x,m[i]? =some x:=⟨_,List.getElem?_eq_getElem (by rw[HM.out];exact hlt)⟩
   have hW:=HI.out.row
   obtain⟨gl,cap,cur,ev,_⟩:=hW.form (by rw[HM.out];omega)
   have ev2:p=some ⟨gl,0,none⟩:=by injection ev
   subst ev2
   clear ev
   obtain⟨x0,x1,x2,x3,x4,x5,x6,x7,x8,x9,x10⟩:=hW.cells hx
   have HX:=a0z hx
   clear hW hx
   go_wp2_with fail
   go_at_call 76
   refine(jvz w.heap.size g s T x wr HI.out.tree HI.out.wf.rank (by have:=HI.out.small;omega) (by have:=HI.out.small;omega)).mono ?_
   intro e w2 hp
   obtain⟨rfl,T',s',hI⟩:=HI.out.step HX.out (HS.out.2 x (List.mem_of_getElem? HX.out)) hp
   have HI2:=a0z hI
   clear hI hp x0 x1 x2 x3 x4 x5 x6 x7 x8 x9 x10
   go_wp2_with fail
   go_roundw
   case rel=>exact⟨i+1,T',s',rfl,by omega,HI2⟩
   case measure=>simp[intOf];omega
end Go.Proofs.YthhakekbffembaaGreatDoor.Ck.Y

namespace Go.Proofs.YthhakekbffembaaGreatDoor.Ck.Y
open Go.RowKit Go.Maps
variable {w wr:World} {T:List OB} {t n:Int} {i j g c:Nat} {v:Value} {m:List PI} {x:PI}
structure KidI (w wr:World) (T:List OB) (t n:Int) (i j:Nat) (v:Value) (m:List PI):Prop where
 row:RowI wr w.heap.size v m
 kids:IsKids (T.take i) t n m
 len:m.length=j∧j≤i
 bel:Below w.heap.size w wr
theorem KidI.below {W:World} (h:KidI w wr T t n i j v m) (hb:Below wr.heap.size wr W):KidI w W T t n i j v m:=⟨h.row.below hb,h.kids,h.len,h.bel.trans (hb.mono h.bel.size)⟩
theorem KidI.pass {o:OB} (h:KidI w wr T t n i j v m) (ho:T[i]? =some o) (hs:azz o.pt o.pn t n=false):KidI w wr T t n (i+1) j v m:=by
 refine⟨h.row,⟨?_,h.kids.rise⟩,⟨h.len.1,Nat.le_succ_of_le h.len.2⟩,h.bel⟩
 rw[List.take_add_one,ho]
 show m.Perm (bvz (T.take i++[o]) t n)
 rw[fkz,hs]
 simpa using h.kids.perm
structure KidK (w wr:World) (m:List PI) (x:PI) (k j g c:Nat):Prop where
 row:RowI wr w.heap.size (.slice (some ⟨g,0,none⟩) (j+1) c) (bjz m k x)
 less:∀a∈m.drop k,avz x a
 bel:Below w.heap.size w wr
theorem KidK.below {W:World} {k:Nat} (h:KidK w wr m x k j g c) (hb:Below wr.heap.size wr W):KidK w W m x k j g c:=⟨h.row.below hb,h.less,h.bel.trans (hb.mono h.bel.size)⟩
theorem ojz {w0 w':World} {l:List PI} {B:Nat} (hb:Below B w0 w) (hB:B≤w.heap.size) (hr:RowI w B v l) (hg:w.grownBy w' v.ownBlock):Below B w0 w':=
 ⟨hg.os.trans hb.os,hg.tape.trans hb.tape,hg.output.trans hb.output,Nat.le_trans hb.size hg.size,λk hk=>(hg.block k (by omega) (λe=>by
  obtain⟨_,_,h⟩:=hr.tag e.symm
  omega)).trans (hb.block k hk)⟩
theorem KidK.done {k:Nat} {o:OB} (h:KidK w wr m (idp o) k j g c) (ha:cfz T) (hk:IsKids (T.take i) t n m) (hl:m.length=j∧j≤i) (ho:T[i]? =some o) (hso:azz o.pt o.pn t n=true) (hs:k=0∨∃b,m[k-1]? =some b∧¬avz (idp o) b):KidI w wr T t n (i+1) (j+1) (.slice (some ⟨g,0,none⟩) (j+1) c) (bjz m k (idp o)):=by
 have apart:∀a∈m,¬(a.1=(idp o).1∧a.2=(idp o).2):=λa hm=>by
  have h1:=hk.perm.mem_iff.1 hm
  unfold bvz at h1
  obtain⟨q,hq,rfl⟩:=List.mem_map.1 h1
  have h2:=(List.mem_filter.1 hq).1
  obtain⟨z,hz,e⟩:=List.getElem_of_mem h2
  rw[List.length_take]at hz
  rw[List.getElem_take]at e
  obtain⟨hi,eo⟩:=List.getElem?_eq_some_iff.1 ho
  have h3:=(List.pairwise_iff_getElem.1 ha) z i (by omega) hi (by omega)
  rw[e,eo]at h3
  exact h3
 refine⟨h.row,⟨?_,fDz hk.rise (λa hm=> ?_) h.less⟩,⟨by rw[hjz];omega,by omega⟩,h.bel⟩
 ·rw[List.take_add_one,ho]
  show(bjz m k (idp o)).Perm (bvz (T.take i++[o]) t n)
  rw[fkz,if_pos hso]
  exact(e7z m k (idp o)).trans (hk.perm.append_right _)
 ·rcases hs with h0|⟨b,hb,hlb⟩
  ·subst h0;simp at hm
  ·have hbm:=List.mem_of_getElem? hb
   have k1:avz b (idp o):=f7z hlb (λe=>apart b hbm ⟨e.1.symm,e.2.symm⟩)
   obtain⟨z,hz,e⟩:=List.getElem_of_mem hm
   rw[List.length_take]at hz
   rw[List.getElem_take]at e
   obtain⟨hkl,hbe⟩:=List.getElem?_eq_some_iff.1 hb
   by_cases hjk:z=k-1
   ·subst hjk
    rw[← e,hbe]
    exact k1
   ·have:=(List.pairwise_iff_getElem.1 hk.rise) z (k-1) (by omega) hkl (by omega)
    rw[e,hbe]at this
    exact bez this k1
theorem kqz {T:List PI} {b:PI} {kk:Nat} (hb:T[kk]? =some b):(((bjz T (kk+1) x).set kk x).set (kk+1) b)=bjz T kk x:=by
 have hk:=(List.getElem?_eq_some_iff.1 hb).1
 have e0:T.drop kk=b::T.drop (kk+1):=by
  rw[List.drop_eq_getElem_cons hk]
  have:=(List.getElem?_eq_some_iff.1 hb).2
  rw[this]
 have e1:T.take (kk+1)=T.take kk++[b]:=by rw[List.take_add_one,hb];rfl
 have hl:(T.take kk).length=kk:=by rw[List.length_take];omega
 unfold bjz
 rw[e0,e1,List.append_assoc]
 rw[List.set_append_right kk _ (by omega),hl,Nat.sub_self]
 rw[List.set_append_right (kk+1) _ (by omega),hl,show kk+1-kk=1 by omega]
 rfl
theorem KidK.swap {W W2 W3 W4:World} {b:PI} {kk:Nat} (h:KidK w W m x (kk+1) j g c) (hb:m[kk]? =some b) (hle:avz x b) (hB2:Below W.heap.size W W2) (ho3:Only (· =g) W2 W3) (ho4:Only (· =g) W3 W4) (hrow:RowI W4 w.heap.size (.slice (some ⟨g,0,none⟩) (j+1) c) (((bjz m (kk+1) x).set kk x).set (kk+1) b)):KidK w W4 m x kk j g c:=by
 have hk:=(List.getElem?_eq_some_iff.1 hb).1
 have hgb:w.heap.size≤g:=by obtain⟨_,_,_,hb,_⟩:=h.row.cur;exact hb
 rw[kqz hb]at hrow
 refine⟨hrow,λa ha=> ?_, ?_⟩
 ·rw[List.drop_eq_getElem_cons hk,(List.getElem?_eq_some_iff.1 hb).2,List.mem_cons]at ha
  rcases ha with rfl|ha
  ·exact hle
  ·exact h.less a ha
 ·have h1:=h.bel.trans (hB2.mono h.bel.size)
  exact⟨ho4.os.trans (ho3.os.trans h1.os),ho4.tape.trans (ho3.tape.trans h1.tape),ho4.output.trans (ho3.output.trans h1.output),Nat.le_trans h1.size (Nat.le_trans ho3.size ho4.size),λk hk=>by
   have s1:=h1.size
   have s2:=ho3.size
   rw[ho4.block k (by omega) (by omega),ho3.block k (by omega) (by omega)]
   exact h1.block k hk⟩
theorem ifz {Q:Exit→Act→World→Prop} {base:Array Value} {dd:List Deferred} {ops:Array Oper} (hops:Tryz.f86.body.bind (alz 8)=some ops)  (w9:World) (hsz:base.size=78) (b7:base.getD 7 undef=iV 0) (hQ:∀W,Below w9.heap.size w9 W→Q .normal ⟨abz base [(some 43,iV 0),(some 44,.bool false),(some 45,.bool false),(some 46,undef),(some 47,undef),(some 48,undef),(some 49,undef),(some 50,undef),(some 51,undef),(some 52,undef),(some 53,undef),(some 54,undef),(some 55,undef),(some 56,.bool false)],dd⟩ W):
  (Code.region 8 ops true).wp Tryz.prog Q ⟨base,dd⟩ w9:=by
 obtain rfl:=Option.some.inj ((show Tryz.f86.body.bind (alz 8)=some _ from rfl).symm.trans hops);clear hops
 refine rU (by kernel_rfl) 78 hsz (by kernel_rfl) rfl hQ λLL hLe b W Ii Oo a hS hcl ho hb hd ev kp yl=> ?_
 have vv2:aaz LL 2=.bool false:=vL hLe rfl
 have Vv:=aV hLe;have Ee:=aE hLe rfl ev
 have e7:=(kp 7 (by kernel_rfl)).trans b7
 simp only[AV,AE,Nat.zero_add,Nat.reduceAdd,and_true]at Vv Ee
 match Ii with
 |0|1|2|13=>simp only[qq]at ho;subst ho;have hd:=aD hd;simp only[AD,and_true]at hd;simp only[Vv];exact dV (by simp[execOp,go_sem,Ee,e7,hd]) hS
 |3|4|5|6|7|8|9|10|11|12=>simp only[qq]at ho;subst ho;exact a1z rfl (yl 2 45 false rfl (hG hd 2) vv2) (by decide) (vL hLe rfl) (hS)
 |k+14=>simp at ho
theorem ntz {Q:Exit→Act→World→Prop} {base:Array Value} {dd:List Deferred} {ops:Array Oper} (hops:Tryz.f86.body.bind (alz 8)=some ops) (gl m cl K kk:Nat) (xt xn yt yn:Int) (r:Bool) (w9:World) (hsz:base.size=78) (b5:base.getD 5 undef=.slice (some ⟨gl,0,none⟩) m cl) (b7:base.getD 7 undef=iV (K:Nat)) (hK:0<K) (hKm:K<m) (hkm:kk<m) (hsub:(K:Int)-1=(kk:Nat)) (hwr:IntKind.i64.wrap (kk:Int)=(kk:Int)) (hx0:w9.cell? ⟨gl,K*2,none⟩=some (iV xt)) (hx1:w9.cell? ⟨gl,K*2+1,none⟩=some (iV xn)) (hy0:w9.cell? ⟨gl,kk*2,none⟩=some (iV yt)) (hy1:w9.cell? ⟨gl,kk*2+1,none⟩=some (iV yn)) (cK:∀W,Below w9.heap.size w9 W→Calls Tryz.prog 97 #[idv xt xn,idv yt yn] W λe w'=>e=.returned (.bool r)∧Below W.heap.size W w') (hQ:∀W,Below w9.heap.size w9 W→Q .normal ⟨abz base [(some 43,iV (K:Nat)),(some 44,.bool true),(some 45,.bool true),(some 46,.slice (some ⟨gl,0,none⟩) m cl),(some 47,iV (K:Nat)),(some 48,.pointer (some ⟨gl,K*2,none⟩)),(some 49,.agg #[iV xt,iV xn]),(some 50,.slice (some ⟨gl,0,none⟩) m cl),(some 51,iV (K:Nat)),(some 52,iV (kk:Nat)),(some 53,.pointer (some ⟨gl,kk*2,none⟩)),(some 54,.agg #[iV yt,iV yn]),(some 55,.bool r),(some 56,.bool r)],dd⟩ W):
  (Code.region 8 ops true).wp Tryz.prog Q ⟨base,dd⟩ w9:=by
 obtain rfl:=Option.some.inj ((show Tryz.f86.body.bind (alz 8)=some _ from rfl).symm.trans hops);clear hops
 refine rU (by kernel_rfl) 78 hsz (by kernel_rfl) rfl hQ λLL hLe b W Ii Oo a hS hcl ho hb hd ev kp yl=> ?_
 have vv2:aaz LL 2=.bool true:=vL hLe rfl
 have vv6:aaz LL 6=.agg #[iV xt,iV xn]:=vL hLe rfl
 have vv10:aaz LL 10=.pointer (some ⟨gl,kk*2,none⟩):=vL hLe rfl
 have vv11:aaz LL 11=.agg #[iV yt,iV yn]:=vL hLe rfl
 have vv12:aaz LL 12=.bool r:=vL hLe rfl
 have Vv:=aV hLe;have Ee:=aE hLe rfl ev
 have e7:=(kp 7 (by kernel_rfl)).trans b7
 have e5:=(kp 5 (by kernel_rfl)).trans b5
 have d9_0:=(hS.cell (p:=⟨gl,K*2,none⟩) (a4z hx0)).trans hx0
 have d9_1:=(hS.cell (p:=⟨gl,K*2+1,none⟩) (a4z hx1)).trans hx1
 simp only[AV,AE,Nat.zero_add,Nat.reduceAdd,and_true]at Vv Ee
 match Ii with
 |0|1|2|13=>simp only[qq]at ho;subst ho;have hd:=aD hd;simp only[AD,and_true]at hd;simp only[Vv];exact dV (by simp[execOp,go_sem,Ee,e7,hK,hd]) hS
 |3|4|5|6|7|8|9|10=>simp only[qq]at ho;subst ho;have hy:=yl 2 45 true rfl (hG hd 2) (by simp only[Vv]);have hd:=aD hd;simp only[AD,and_true]at hd;simp only[Vv];exact dG hy (by simp[execOp,go_sem,Ee,d9_0,d9_1,e5,e7,hKm,hd,hkm,hsub,hwr]) hS
 |11=>simp only[qq]at ho;subst ho;have e53:=eD ev hd 10 53 vv10;have d9_0:=(hS.cell (p:=⟨gl,kk*2,none⟩) (a4z hy0)).trans hy0;have d9_1:=(hS.cell (p:=⟨gl,kk*2+1,none⟩) (a4z hy1)).trans hy1;rw[vv11];exact dG (yl 2 45 true rfl (hG hd 2) vv2) (by simp[execOp,go_sem,e53,d9_0,d9_1]) hS
 |12=>
  simp only[qq]at ho;subst ho;have e49:=eD ev hd 6 49 vv6;have e54:=eD ev hd 11 54 vv11;rw[vv12]
  refine apz rfl (yl 2 45 true rfl (hG hd 2) vv2) nofun (f:=97) (args:= #[.agg #[iV xt,iV xn],.agg #[iV yt,iV yn]]) ?_ ?_
  ·simp[go_sem,e49,e54]
  ·exact(cK W hS).mono (λe w' h=>⟨h.1,hS.trans (h.2.mono hS.size)⟩)
 |k+14=>simp at ho
theorem jRz (base g s:Nat) (T:List OB) (t n:Int) (w:World) (h:TreeY w base g T s) (ha:cfz T):
  Calls Tryz.prog 86 #[.pointer (some ⟨g,0,none⟩),idv t n] w λe w'=>∃v m,e=.returned v∧RowI w' w.heap.size v m∧IsKids T t n m∧Below w.heap.size w w':=by
 obtain⟨w1,hw1⟩:∃w1,w1=w.alloc (.cells #[.int .i64 t,.int .i64 n] 28):=⟨_,rfl⟩
 have hB1:Below w.heap.size w w1:=by rw[hw1];exact(a3z w _).out
 have hx1:w1.heap[w.heap.size]? =some (.cells #[.int .i64 t,.int .i64 n] 28 (0,0)):=by rw[hw1];exact heap_alloc_new w _
 have HT:Hid (TreeY w1 base g T s∧Below w.heap.size w w1∧cfz T):=⟨h.below hB1,hB1,ha⟩
 have HW:=a0z hw1
 obtain⟨bx,hbx⟩:∃bx,w.heap.size=bx:=⟨_,rfl⟩
 have HBX:=a0z hbx
 rw[hbx]at hx1
 have HX:=a0z hx1
 obtain⟨k,hk⟩:∃k,T.length=k:=⟨_,rfl⟩
 have hkl:k<1000000:=by rw[← hk];exact h.len
 have HM:=a0z hk
 clear hw1 hB1 hx1 h ha hbx hk
 go_enter Tryz.func86,Tryz.ntmps86
 go_wp2_with fail
 rw[← HW.out,HBX.out]
 clear HW
 go_loopw [5,6] (λvl vi wr=>∃(i j:Nat) (p':Option Addr) (c':Nat) (m:List PI),vl=.slice p' j c'∧vi=.int .i64 i∧i≤k∧j≤i∧Hid (KidI w1 wr T t n i j (.slice p' j c') m)) (λ_ vi _=>k-(intOf vi).toNat)
 case atStart=>exact⟨0,0,none,0,[],rfl,rfl,Nat.zero_le _,Nat.le_refl _,RowI.nil _ _,⟨by rw[List.take_zero];exact List.Perm.refl _,List.Pairwise.nil⟩,⟨rfl,Nat.le_refl _⟩,Below.refl _ _⟩
 case round=>
  obtain⟨i,j,p',c',m,rfl,rfl,hi,hji,HI⟩:=hrel
  have hT:=HT.out.1.below HI.out.bel
  obtain⟨p,c,hc,_⟩:=hT.view
  rw[HM.out]at hc
  have c0:wr.cell? ⟨g,0,none⟩=some (.slice p k c):=cellOf hc 0
  by_cases hik:i=k
  ·subst hik
   clear hT hc
   go_wp2_with fail
   go_ret
   have hkk:=HI.out.kids
   rw[← HM.out,List.take_length]at hkk
   refine⟨_,m,rfl, ?_,hkk,HT.out.2.1.trans (HI.out.bel.mono HT.out.2.1.size)⟩
   have hr:=HI.out.row
   refine⟨hr.1, ?_⟩
   rcases hr.2 with e|⟨g',cp,cur,hv,hbs,r⟩
   ·exact .inl e
   ·exact .inr ⟨g',cp,cur,hv,Nat.le_trans HT.out.2.1.size hbs,r⟩
  ·have hlt:i<k:=by omega
   obtain⟨o,ho⟩:∃o,T[i]? =some o:=⟨_,List.getElem?_eq_getElem (by rw[HM.out];exact hlt)⟩
   obtain⟨gl,cl,hcl,d0,d1,d2,d3,_,_⟩:=hT.ob ho
   rw[HM.out]at hcl
   have ep:p=some ⟨gl,0,none⟩∧c=cl:=by
    rw[hc]at hcl
    simp only[Option.some.injEq,Obj.cells.injEq]at hcl
    have:=hcl.1
    simp at this
    exact this
   obtain⟨rfl,rfl⟩:=ep
   have hbx:=(HI.out.bel.block _ (block_lt HX.out)).trans HX.out
   have HC:=a0z (agz hc (agz hbx (agz d2 (agz d3 (agz d0 (agz d1 ho))))))
   clear hT hc hcl hbx d0 d1 d2 d3 ho
   go_wp2_with fail
   refine kyz (by kernel_rfl) g bx gl k c i s t n o.pt o.pn (azz o.pt o.pn t n) _ rfl rfl rfl rfl hlt HC.out.1 HC.out.2.1 HC.out.2.2.1 HC.out.2.2.2.1 (λW _=>bTz _ _ _ _ W) ?_
   intro W hS
   have HW:=a0z hS
   clear hS c0
   simp only[abz,sA,sB,sC]
   cases hs:azz o.pt o.pn t n
   ·go_wp2_with fail
    go_roundw
    case rel=>exact⟨i+1,j,p',c',m,rfl,rfl,by omega,by omega,(HI.out.below HW.out).pass HC.out.2.2.2.2.2.2 hs⟩
    case measure=>simp[intOf];omega
   ·have HSO:=a0z hs
    have c0:W.cell? ⟨g,0,none⟩=some (.slice (some ⟨gl,0,none⟩) k c):=cellOf ((HW.out.block _ (block_lt HC.out.1)).trans HC.out.1) 0
    have d0:W.cell? ⟨gl,i*6,none⟩=some (.int .i64 o.it):=(HW.out.cell (p:=⟨gl,i*6,none⟩) (a4z HC.out.2.2.2.2.1)).trans HC.out.2.2.2.2.1
    have d1:W.cell? ⟨gl,i*6+1,none⟩=some (.int .i64 o.ii):=(HW.out.cell (p:=⟨gl,i*6+1,none⟩) (a4z HC.out.2.2.2.2.2.1)).trans HC.out.2.2.2.2.2.1
    have HA:Hid (∀x,RowI (W.alloc x) w1.heap.size (.slice p' j c') m):=λx=>(HI.out.row.below HW.out).below (a3z W x).out
    have HTl:Hid (m.length=j):=HI.out.len.1
    have hsz:w1.heap.size≤W.heap.size:=Nat.le_trans HI.out.bel.size HW.out.size
    clear hs
    go_wp2_with (refine gFz rfl _ _ rfl w1.heap.size (.slice p' j c') m (idp o) rfl W.heap.size rfl ⟨HA.out _,heap_alloc_new W _,by rw[HTl.out];omega,by simp;omega⟩ ?_;intro p2 c2 w2 H2;refine Stop.out ?_)
    refine Stop.mk ?_
    have HK:∃g2,p2=some ⟨g2,0,none⟩∧Hid (KidK w1 w2 m (idp o) j j g2 c2):=by
     obtain⟨k1,k2,_⟩:=H2.out
     obtain⟨g2,cap2,cur2,e2,_⟩:=k1.form (by simp)
     have e3:p2=some ⟨g2,0,none⟩:=by injection e2
     subst e3
     refine⟨g2,rfl, ?_, ?_, ?_⟩
     ·have:bjz m j (idp o)=m++[idp o]:=by
       unfold bjz
       rw[List.take_of_length_le (by rw[HTl.out];exact Nat.le_refl _),List.drop_of_length_le (by rw[HTl.out];exact Nat.le_refl _)]
      rw[this]
      rw[HTl.out]at k1
      exact k1
     ·intro a ha
      rw[List.drop_of_length_le (by rw[HTl.out];exact Nat.le_refl _)]at ha
      cases ha
     ·have hbw:=HI.out.bel.trans (HW.out.mono HI.out.bel.size)
      exact ojz (hbw.trans ((a3z W _).out.mono hbw.size)) (by simp;omega) (HA.out _) k2
    obtain⟨g2,rfl,HK⟩:=HK
    rw[HTl.out]
    have eI:((j+1:Nat):Int)-1=(j:Int):=by omega
    have hj1:j<1000000:=by omega
    clear H2 c0 d0 d1 HA hsz
    go_wp2_with fail
    go_loopw [7] (λvk wr2=>∃q:Nat,vk=.int .i64 q∧q≤j∧Hid (KidK w1 wr2 m (idp o) q j g2 c2)) (λvk _=>(intOf vk).toNat)
    case atStart=>exact⟨j,rfl,Nat.le_refl _,HK⟩
    case round=>
     clear HK
     obtain⟨q,rfl,hq,HK⟩:=hrel
     by_cases h0:q=0
     ·subst h0
      go_wp2_with fail
      refine ifz (by kernel_rfl) _ rfl rfl ?_
      intro W2 hS
      have HW2:=a0z hS
      clear hS
      simp only[abz,sA,sB,sC]
      go_wp2_with fail
      go_roundw
      case rel=>exact⟨i+1,j+1,_,_,bjz m 0 (idp o),rfl,rfl,by omega,by omega,(HK.out.below HW2.out).done HT.out.2.2 HI.out.kids HI.out.len HC.out.2.2.2.2.2.2 HSO.out (.inl rfl)⟩
      case measure=>simp[intOf];omega
     ·obtain⟨kk,rfl⟩:∃kk,q=kk+1:=⟨q-1,by omega⟩
      obtain⟨b,hb⟩:∃b,m[kk]? =some b:=⟨_,List.getElem?_eq_getElem (by have:=HTl.out;omega)⟩
      have hkT:kk<m.length:=by have:=HTl.out;omega
      have e1:(bjz m (kk+1) (idp o))[kk+1]? =some (idp o):=by
       unfold bjz
       rw[List.getElem?_append_right (by rw[List.length_take];omega),List.length_take,show kk+1-min (kk+1) m.length=0 by omega]
       rfl
      have e2:(bjz m (kk+1) (idp o))[kk]? =some b:=by
       unfold bjz
       rw[List.getElem?_append_left (by rw[List.length_take];omega),List.getElem?_take,if_pos (by omega),hb]
      have HX2:=a0z (agz hb (agz hkT (agz e1 e2)))
      obtain⟨x0,x1⟩:=HK.out.row.cells e1
      obtain⟨y0,y1⟩:=HK.out.row.cells e2
      have HXY:=a0z (agz x0 (agz x1 (agz y0 y1)))
      clear hb hkT e1 e2 x0 x1 y0 y1
      obtain⟨K,hK⟩:∃K,K=kk+1:=⟨_,rfl⟩
      rw[← hK]at HXY hq HK HX2⊢
      have HKk:=a0z hK
      have hK0:0<K:=by omega
      have hKm:K<j+1:=by omega
      have hkm:kk<j+1:=by omega
      have hsub:(K:Int)-1=(kk:Nat):=by omega
      clear hK
      go_wp2_with fail
      refine ntz (by kernel_rfl) g2 (j+1) c2 K kk (idp o).1 (idp o).2 b.1 b.2 (lessB (idp o).1 (idp o).2 b.1 b.2) _ rfl rfl rfl hK0 hKm hkm hsub (by rw[IntKind.wrap_i64];omega) HXY.out.1 HXY.out.2.1 HXY.out.2.2.1 HXY.out.2.2.2 (λW _=>rless_any _ _ _ _ W) ?_
      intro W2 hS
      have HW2:=a0z hS
      clear hS
      simp only[abz,sA,sB,sC]
      cases hle:lessB (idp o).1 (idp o).2 b.1 b.2
      ·have HNL:Hid (¬avz (idp o) b):=λe=>by unfold avz at e;rw[hle]at e;cases e
       clear hle
       go_wp2_with fail
       go_roundw
       case rel=>exact⟨i+1,j+1,_,_,bjz m K (idp o),rfl,rfl,by omega,by omega,(HK.out.below HW2.out).done HT.out.2.2 HI.out.kids HI.out.len HC.out.2.2.2.2.2.2 HSO.out (.inr ⟨b,by rw[HKk.out];exact HX2.out.1,HNL.out⟩)⟩
       case measure=>simp[intOf];omega
      ·have HLE:=a0z hle
       have hWr:=HK.out.row.below HW2.out
       obtain⟨x0,x1⟩:=hWr.cells HX2.out.2.2.1
       obtain⟨y0,y1⟩:=hWr.cells HX2.out.2.2.2
       have lg:g2<W2.heap.size:=by obtain⟨cur,hcur,_⟩:=hWr.cur;exact block_lt hcur
       have n1:¬g2=W2.heap.size:=by omega
       have n2:¬g2=W2.heap.size+1:=by omega
       have n3:¬W2.heap.size=g2:=by omega
       have n4:¬W2.heap.size+1=g2:=by omega
       clear hle hWr
       go_wp2_with fail
       go_region
       ·generalize hW2:((W2.alloc (.cells #[.int .i64 b.1,.int .i64 b.2] 28)).alloc (.cells #[.int .i64 (idp o).1,.int .i64 (idp o).2] 28)).drew=W3
        have hA:W3.heap[W2.heap.size]? =some (.cells (idC b) 28 (0,0)):=by rw[← hW2];exact heap_alloc2_old W2 _ _
        have hB:W3.heap[W2.heap.size+1]? =some (.cells (idC (idp o)) 28 (0,0)):=by rw[← hW2];exact heap_alloc2_new W2 _ _
        have hB2:Below W2.heap.size W2 W3:=by
         rw[← hW2]
         have:=(b0z W2 (.cells #[.int .i64 b.1,.int .i64 b.2] 28) (.cells #[.int .i64 (idp o).1,.int .i64 (idp o).2] 28)).out
         exact⟨this.os,this.tape,this.output,this.size,this.block⟩
        have HR2:Hid (RowI W3 w1.heap.size (.slice (some ⟨g2,0,none⟩) (j+1) c2) (bjz m K (idp o))∧kk<(bjz m K (idp o)).length):=⟨(HK.out.row.below HW2.out).below hB2,(List.getElem?_eq_some_iff.1 HX2.out.2.2.2).1⟩
        have HKl:Hid (K<(bjz m K (idp o)).length):=(List.getElem?_eq_some_iff.1 HX2.out.2.2.1).1
        have z0:W3.cell? ⟨W2.heap.size+1,0,none⟩=some (.int .i64 (idp o).1):=cellOf hB 0
        have z1:W3.cell? ⟨W2.heap.size+1,1,none⟩=some (.int .i64 (idp o).2):=cellOf hB 1
        have H2:=a0z (agz hB2 hA)
        clear hW2 hA hB hB2 x0 x1 y0 y1
        go_wp2_with (refine ccz rfl _ _ rfl w1.heap.size g2 (j+1) c2 kk (bjz m K (idp o)) (idp o) rfl rfl HR2 ?_;intro W4 H3;refine Stop.out ?_)
        refine Stop.mk ?_
        have hA3:=(H3.out.2.1.block _ (block_lt H2.out.2) (by omega)).trans H2.out.2
        have v0:W4.cell? ⟨W2.heap.size,0,none⟩=some (.int .i64 b.1):=cellOf hA3 0
        have v1:W4.cell? ⟨W2.heap.size,1,none⟩=some (.int .i64 b.2):=cellOf hA3 1
        have HR3:Hid (RowI W4 w1.heap.size (.slice (some ⟨g2,0,none⟩) (j+1) c2) ((bjz m K (idp o)).set kk (idp o))∧K<((bjz m K (idp o)).set kk (idp o)).length):=⟨H3.out.1,by rw[List.length_set];exact HKl.out⟩
        clear hA3 z0 z1
        go_wp2_with (refine ccz rfl _ _ rfl w1.heap.size g2 (j+1) c2 K ((bjz m K (idp o)).set kk (idp o)) b rfl rfl HR3 ?_;intro W5 H4;refine Stop.out ?_)
        refine Stop.mk ?_
        clear v0 v1
        go_wp2_with fail
        go_roundw
        case rel=>
         refine⟨kk,rfl,by omega, ?_⟩
         obtain⟨k1,k2,k3⟩:=H4.out
         have hD:=HK.out.below HW2.out
         have e:=HKk.out
         subst e
         exact hD.swap HX2.out.1 HLE.out H2.out.1 H3.out.2.1 k2 k1
        case measure=>simp[intOf];omega
       ·generalize hW2:((W2.alloc (.cells #[.int .i64 (idp o).1,.int .i64 (idp o).2] 28)).alloc (.cells #[.int .i64 b.1,.int .i64 b.2] 28)).drew=W3
        have hA:W3.heap[W2.heap.size+1]? =some (.cells (idC b) 28 (0,0)):=by rw[← hW2];exact heap_alloc2_new W2 _ _
        have hB:W3.heap[W2.heap.size]? =some (.cells (idC (idp o)) 28 (0,0)):=by rw[← hW2];exact heap_alloc2_old W2 _ _
        have hB2:Below W2.heap.size W2 W3:=by
         rw[← hW2]
         have:=(b0z W2 (.cells #[.int .i64 (idp o).1,.int .i64 (idp o).2] 28) (.cells #[.int .i64 b.1,.int .i64 b.2] 28)).out
         exact⟨this.os,this.tape,this.output,this.size,this.block⟩
        have HR2:Hid (RowI W3 w1.heap.size (.slice (some ⟨g2,0,none⟩) (j+1) c2) (bjz m K (idp o))∧kk<(bjz m K (idp o)).length):=⟨(HK.out.row.below HW2.out).below hB2,(List.getElem?_eq_some_iff.1 HX2.out.2.2.2).1⟩
        have HKl:Hid (K<(bjz m K (idp o)).length):=(List.getElem?_eq_some_iff.1 HX2.out.2.2.1).1
        have z0:W3.cell? ⟨W2.heap.size,0,none⟩=some (.int .i64 (idp o).1):=cellOf hB 0
        have z1:W3.cell? ⟨W2.heap.size,1,none⟩=some (.int .i64 (idp o).2):=cellOf hB 1
        have H2:=a0z (agz hB2 hA)
        clear hW2 hA hB hB2 x0 x1 y0 y1
        go_wp2_with (refine ccz rfl _ _ rfl w1.heap.size g2 (j+1) c2 kk (bjz m K (idp o)) (idp o) rfl rfl HR2 ?_;intro W4 H3;refine Stop.out ?_)
        refine Stop.mk ?_
        have hA3:=(H3.out.2.1.block _ (block_lt H2.out.2) (by omega)).trans H2.out.2
        have v0:W4.cell? ⟨W2.heap.size+1,0,none⟩=some (.int .i64 b.1):=cellOf hA3 0
        have v1:W4.cell? ⟨W2.heap.size+1,1,none⟩=some (.int .i64 b.2):=cellOf hA3 1
        have HR3:Hid (RowI W4 w1.heap.size (.slice (some ⟨g2,0,none⟩) (j+1) c2) ((bjz m K (idp o)).set kk (idp o))∧K<((bjz m K (idp o)).set kk (idp o)).length):=⟨H3.out.1,by rw[List.length_set];exact HKl.out⟩
        clear hA3 z0 z1
        go_wp2_with (refine ccz rfl _ _ rfl w1.heap.size g2 (j+1) c2 K ((bjz m K (idp o)).set kk (idp o)) b rfl rfl HR3 ?_;intro W5 H4;refine Stop.out ?_)
        refine Stop.mk ?_
        clear v0 v1
        go_wp2_with fail
        go_roundw
        case rel=>
         refine⟨kk,rfl,by omega, ?_⟩
         obtain⟨k1,k2,k3⟩:=H4.out
         have hD:=HK.out.below HW2.out
         have e:=HKk.out
         subst e
         exact hD.swap HX2.out.1 HLE.out H2.out.1 H3.out.2.1 k2 k1
        case measure=>simp[intOf];omega
end Go.Proofs.YthhakekbffembaaGreatDoor.Ck.Y
