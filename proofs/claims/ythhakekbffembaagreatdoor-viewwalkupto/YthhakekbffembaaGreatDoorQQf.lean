import Derived.Test.YthhakekbffembaaGreatDoorQQb
set_option maxRecDepth 8000
set_option maxHeartbeats 4000000

namespace Go.Proofs.YthhakekbffembaaGreatDoor.Ck.Y
open Go.RowKit Go.Maps
variable {Q:Exit→Act→World→Prop} {base:Array Value} {dd:List Deferred} {ops:Array Oper}
def obL (x:OB):List Value:=[.int .i64 x.it,.int .i64 x.ii,.int .i64 x.pt,.int .i64 x.pn,.string x.nm,.bool x.dir]
def btz:List OB→List Value
 |[]=>[]
 |x::l=>obL x++btz l
theorem dxz:∀l:List OB,(btz l).length=l.length*6
 |[]=>rfl
 |x::l=>by rw[btz,List.length_append,dxz l,List.length_cons];simp[obL];omega
theorem dHz:∀l m:List OB,btz (l++m)=btz l++btz m
 |[],_=>rfl
 |x::l,m=>by rw[List.cons_append,btz,btz,dHz l m,List.append_assoc]
theorem h2z:∀(l:List OB) (i j:Nat) (x:OB),l[i]? =some x→j<6→(btz l)[i*6+j]? =(obL x)[j]?
 |[],_,_,_,h,_=>by simp at h
 |y::l,0,j,x,h,hj=>by
  have:y=x:=by simpa using h
  subst this
  rw[btz,Nat.zero_mul,Nat.zero_add,List.getElem?_append_left (by simp[obL];exact hj)]
 |y::l,i+1,j,x,h,hj=>by
  rw[btz,List.getElem?_append_right (by simp[obL];omega),show(i+1)*6+j-(obL y).length=i*6+j by simp[obL];omega]
  exact h2z l i j x (by simpa using h) hj
structure TreeY (w:World) (base g:Nat) (T:List OB) (s:Nat):Prop where
 lo:base≤g
 cell:∃v,w.heap[g]? =some (.cells #[v,.int .i64 (s:Nat)] 51 (0,0))∧w.ownsRow base 48 6 v T.length (btz T)
 len:T.length<1000000
theorem TreeY.below {w w':World} {base g s:Nat} {T:List OB} (h:TreeY w base g T s) (hb:Below w.heap.size w w'):TreeY w' base g T s:=by
 obtain⟨v,h1,h2⟩:=h.cell
 exact⟨h.lo,⟨v,(hb.block g (block_lt h1)).trans h1,own_below h2 hb⟩,h.len⟩
theorem TreeY.view {w:World} {base g s:Nat} {T:List OB} (h:TreeY w base g T s):∃p c,w.heap[g]? =some (.cells #[.slice p T.length c,.int .i64 (s:Nat)] 51 (0,0))∧(T=[]∨∃gl,p=some ⟨gl,0,none⟩∧∀(k:Nat) (x:OB),T[k]? =some x→
  w.cell? ⟨gl,k*6,none⟩=some (.int .i64 x.it)∧w.cell? ⟨gl,k*6+1,none⟩=some (.int .i64 x.ii)∧w.cell? ⟨gl,k*6+2,none⟩=some (.int .i64 x.pt)∧w.cell? ⟨gl,k*6+3,none⟩=some (.int .i64 x.pn)∧w.cell? ⟨gl,k*6+4,none⟩=some (.string x.nm)∧w.cell? ⟨gl,k*6+5,none⟩=some (.bool x.dir)):=by
 obtain⟨v,h1,h2⟩:=h.cell
 obtain⟨p,c,rfl⟩:=own_slice h2
 refine⟨p,c,h1, ?_⟩
 rcases h2.2 with⟨e,h0⟩|⟨gl,cap,cur,e,_,hblk,_,_,_,htk⟩
 ·exact .inl (List.length_eq_zero_iff.1 h0)
 ·refine .inr ⟨gl,by injection e,λk x hx=> ?_⟩
  have hk:=(List.getElem?_eq_some_iff.1 hx).1
  have key:∀j,j<6→w.cell? ⟨gl,k*6+j,none⟩=(obL x)[j]? :=λj hj=>by
   rw[cellOf hblk,← h2z T k j x hx hj,← htk,List.getElem?_take,if_pos (by omega),Array.getElem?_toList]
  exact⟨key 0 (by omega),key 1 (by omega),key 2 (by omega),key 3 (by omega),key 4 (by omega),key 5 (by omega)⟩
theorem jKz (t n:Int) (w:World):Calls Tryz.prog 77 #[idv t n] w λe w'=>e=.returned (.bool (aGz t n))∧Below w.heap.size w w':=by
 have HB:Hid (∀o,Below w.heap.size w (w.alloc o)):=λo=>(a3z w o).out
 by_cases h0:t=0
 ·subst h0
  have HE:Hid (aGz 0 n=decide (n=0)):=by show _=_;simp[aGz]
  go_enter Tryz.func77,Tryz.ntmps77
  go_wp2
  go_ret
  rw[HE.out]
  exact⟨by simp;rfl,HB.out _⟩
 ·have HE:Hid (aGz t n=false):=by show _=_;simp[aGz,h0]
  go_enter Tryz.func77,Tryz.ntmps77
  go_wp2
  go_ret
  rw[HE.out]
  exact⟨by simp,HB.out _⟩
theorem f1z (t n:Int) (w:World):Calls Tryz.prog 78 #[idv t n] w λe w'=>e=.returned (.bool (awz t n))∧Below w.heap.size w w':=by
 have HB:Hid (∀o,Below w.heap.size w (w.alloc o)):=λo=>(a3z w o).out
 by_cases h0:t=0
 ·subst h0
  have HE:Hid (awz 0 n=decide (n=1)):=by show _=_;simp[awz]
  go_enter Tryz.func78,Tryz.ntmps78
  go_wp2
  go_ret
  rw[HE.out]
  exact⟨by simp;rfl,HB.out _⟩
 ·have HE:Hid (awz t n=false):=by show _=_;simp[awz,h0]
  go_enter Tryz.func78,Tryz.ntmps78
  go_wp2
  go_ret
  rw[HE.out]
  exact⟨by simp,HB.out _⟩
def dyz (T:List OB) (t n:Int):Int:=match aoz T t n with|some k=>(k:Int)|none=> -1
theorem khz (hops:Tryz.f14.body.bind (alz 4)=some ops) (gt bx gl m cl K sk:Nat) (at_ an xt xn:Int) (r:Bool) (w9:World) (hsz:base.size=26) (b0:base.getD 0 undef=pO gt) (b3:base.getD 3 undef=pO bx) (b5:base.getD 5 undef=iV (K:Nat)) (hKm:K<m) (hgt:w9.heap[gt]? =some (.cells #[.slice (some ⟨gl,0,none⟩) m cl,iV (sk:Nat)] 51 (0,0))) (hbx:w9.heap[bx]? =some (.cells #[iV at_,iV an] 28 (0,0))) (hx0:w9.cell? ⟨gl,K*6,none⟩=some (iV xt)) (hx1:w9.cell? ⟨gl,K*6+1,none⟩=some (iV xn)) (cK:∀W,Below w9.heap.size w9 W→Calls Tryz.prog 15 #[idv xt xn,idv at_ an] W λe w'=>e=.returned (.bool r)∧Below W.heap.size W w') (hQ:∀W,Below w9.heap.size w9 W→Q .normal ⟨abz base [(some 15,pO gt),(some 16,pO gt),(some 17,pO gt),(some 18,.slice (some ⟨gl,0,none⟩) m cl),(some 19,iV (K:Nat)),(some 20,.pointer (some ⟨gl,K*6,none⟩)),(some 21,.pointer (some ⟨gl,K*6,none⟩)),(some 22,.agg #[iV xt,iV xn]),(some 23,.agg #[iV at_,iV an]),(some 24,.bool r)],dd⟩ W):
  (Code.region 4 ops true).wp Tryz.prog Q ⟨base,dd⟩ w9:=by
 obtain rfl:=Option.some.inj ((show Tryz.f14.body.bind (alz 4)=some _ from rfl).symm.trans hops);clear hops
 refine rU (by kernel_rfl) 26 hsz (by kernel_rfl) rfl hQ λLL hLe b W Ii Oo a hS hcl ho hb hd ev kp yl=> ?_
 have vv2:aaz LL 2=pO gt:=vL hLe rfl
 have vv3:aaz LL 3=.slice (some ⟨gl,0,none⟩) m cl:=vL hLe rfl
 have vv7:aaz LL 7=.agg #[iV xt,iV xn]:=vL hLe rfl
 have vv8:aaz LL 8=.agg #[iV at_,iV an]:=vL hLe rfl
 have vv9:aaz LL 9=.bool r:=vL hLe rfl
 have Vv:=aV hLe;have Ee:=aE hLe rfl ev
 have e0:=(kp 0 (by kernel_rfl)).trans b0
 have e5:=(kp 5 (by kernel_rfl)).trans b5
 have d9_0:=(hS.cell (p:=⟨gl,K*6,none⟩) (a4z hx0)).trans hx0
 have d9_1:=(hS.cell (p:=⟨gl,K*6+1,none⟩) (a4z hx1)).trans hx1
 simp only[AV,AE,Nat.zero_add,Nat.reduceAdd,and_true]at Vv Ee
 match Ii with
 |0|1|2|4|5|6|7=>simp only[qq]at ho;subst ho;have hd:=aD hd;simp only[AD,and_true]at hd;simp only[Vv];exact dV (by simp[execOp,go_sem,Ee,d9_0,d9_1,e0,e5,hKm,hd]) hS
 |3=>simp only[qq]at ho;subst ho;have e17:=eD ev hd 2 17 vv2;have hB9:=(hS.block _ (block_lt hgt)).trans hgt;have d0:W.cell? ⟨gt,0,none⟩=some (.slice (some ⟨gl,0,none⟩) m cl):=(cellOf hB9 0).trans rfl;rw[vv3];exact dV (by simp[execOp,go_sem,e17,d0]) hS
 |8=>simp only[qq]at ho;subst ho;have e3:=(kp 3 (by kernel_rfl)).trans b3;have hB9:=(hS.block _ (block_lt hbx)).trans hbx;have d0:W.cell? ⟨bx,0,none⟩=some (iV at_):=(cellOf hB9 0).trans rfl;have d1:W.cell? ⟨bx,1,none⟩=some (iV an):=(cellOf hB9 1).trans rfl;rw[vv8];exact dV (by simp[execOp,go_sem,e3,d0,d1]) hS
 |9=>
  simp only[qq]at ho;subst ho;have e22:=eD ev hd 7 22 vv7;have e23:=eD ev hd 8 23 vv8;rw[vv9]
  refine ayz rfl nofun (f:=15) (args:= #[.agg #[iV xt,iV xn],.agg #[iV at_,iV an]]) ?_ ?_
  ·simp[go_sem,e22,e23]
  ·exact(cK W hS).mono (λe w' h=>⟨h.1,hS.trans (h.2.mono hS.size)⟩)
 |k+10=>simp at ho
theorem iGz (hops:Tryz.f17.body.bind (alz 4)=some ops) (gt bx gl m cl K sk:Nat) (at_ an xt xn:Int) (r:Bool) (w9:World) (hsz:base.size=33) (b0:base.getD 0 undef=pO gt) (b5:base.getD 5 undef=pO bx) (b7:base.getD 7 undef=iV (K:Nat)) (hKm:K<m) (hgt:w9.heap[gt]? =some (.cells #[.slice (some ⟨gl,0,none⟩) m cl,iV (sk:Nat)] 51 (0,0))) (hbx:w9.heap[bx]? =some (.cells #[iV at_,iV an] 28 (0,0))) (hx0:w9.cell? ⟨gl,K*6+2,none⟩=some (iV xt)) (hx1:w9.cell? ⟨gl,K*6+3,none⟩=some (iV xn)) (cK:∀W,Below w9.heap.size w9 W→Calls Tryz.prog 15 #[idv xt xn,idv at_ an] W λe w'=>e=.returned (.bool r)∧Below W.heap.size W w') (hQ:∀W,Below w9.heap.size w9 W→Q .normal ⟨abz base [(some 23,pO gt),(some 24,pO gt),(some 25,pO gt),(some 26,.slice (some ⟨gl,0,none⟩) m cl),(some 27,iV (K:Nat)),(some 28,.pointer (some ⟨gl,K*6,none⟩)),(some 29,.pointer (some ⟨gl,K*6+2,none⟩)),(some 30,.agg #[iV xt,iV xn]),(some 31,.agg #[iV at_,iV an]),(some 32,.bool r)],dd⟩ W):
  (Code.region 4 ops true).wp Tryz.prog Q ⟨base,dd⟩ w9:=by
 obtain rfl:=Option.some.inj ((show Tryz.f17.body.bind (alz 4)=some _ from rfl).symm.trans hops);clear hops
 refine rU (by kernel_rfl) 33 hsz (by kernel_rfl) rfl hQ λLL hLe b W Ii Oo a hS hcl ho hb hd ev kp yl=> ?_
 have vv2:aaz LL 2=pO gt:=vL hLe rfl
 have vv3:aaz LL 3=.slice (some ⟨gl,0,none⟩) m cl:=vL hLe rfl
 have vv7:aaz LL 7=.agg #[iV xt,iV xn]:=vL hLe rfl
 have vv8:aaz LL 8=.agg #[iV at_,iV an]:=vL hLe rfl
 have vv9:aaz LL 9=.bool r:=vL hLe rfl
 have Vv:=aV hLe;have Ee:=aE hLe rfl ev
 have e0:=(kp 0 (by kernel_rfl)).trans b0
 have e7:=(kp 7 (by kernel_rfl)).trans b7
 have d9_0:=(hS.cell (p:=⟨gl,K*6+2,none⟩) (a4z hx0)).trans hx0
 have d9_1:=(hS.cell (p:=⟨gl,K*6+3,none⟩) (a4z hx1)).trans hx1
 simp only[AV,AE,Nat.zero_add,Nat.reduceAdd,and_true]at Vv Ee
 match Ii with
 |0|1|2|4|5|6|7=>simp only[qq]at ho;subst ho;have hd:=aD hd;simp only[AD,and_true]at hd;simp only[Vv];exact dV (by simp[execOp,go_sem,Ee,d9_0,d9_1,e0,e7,hKm,hd]) hS
 |3=>simp only[qq]at ho;subst ho;have e25:=eD ev hd 2 25 vv2;have hB9:=(hS.block _ (block_lt hgt)).trans hgt;have d0:W.cell? ⟨gt,0,none⟩=some (.slice (some ⟨gl,0,none⟩) m cl):=(cellOf hB9 0).trans rfl;rw[vv3];exact dV (by simp[execOp,go_sem,e25,d0]) hS
 |8=>simp only[qq]at ho;subst ho;have e5:=(kp 5 (by kernel_rfl)).trans b5;have hB9:=(hS.block _ (block_lt hbx)).trans hbx;have d0:W.cell? ⟨bx,0,none⟩=some (iV at_):=(cellOf hB9 0).trans rfl;have d1:W.cell? ⟨bx,1,none⟩=some (iV an):=(cellOf hB9 1).trans rfl;rw[vv8];exact dV (by simp[execOp,go_sem,e5,d0,d1]) hS
 |9=>
  simp only[qq]at ho;subst ho;have e30:=eD ev hd 7 30 vv7;have e31:=eD ev hd 8 31 vv8;rw[vv9]
  refine ayz rfl nofun (f:=15) (args:= #[.agg #[iV xt,iV xn],.agg #[iV at_,iV an]]) ?_ ?_
  ·simp[go_sem,e30,e31]
  ·exact(cK W hS).mono (λe w' h=>⟨h.1,hS.trans (h.2.mono hS.size)⟩)
 |k+10=>simp at ho
theorem kyz (hops:Tryz.f86.body.bind (alz 5)=some ops) (gt bx gl m cl K sk:Nat) (at_ an xt xn:Int) (r:Bool) (w9:World) (hsz:base.size=78) (b0:base.getD 0 undef=pO gt) (b3:base.getD 3 undef=pO bx) (b6:base.getD 6 undef=iV (K:Nat)) (hKm:K<m) (hgt:w9.heap[gt]? =some (.cells #[.slice (some ⟨gl,0,none⟩) m cl,iV (sk:Nat)] 51 (0,0))) (hbx:w9.heap[bx]? =some (.cells #[iV at_,iV an] 28 (0,0))) (hx0:w9.cell? ⟨gl,K*6+2,none⟩=some (iV xt)) (hx1:w9.cell? ⟨gl,K*6+3,none⟩=some (iV xn)) (cK:∀W,Below w9.heap.size w9 W→Calls Tryz.prog 15 #[idv xt xn,idv at_ an] W λe w'=>e=.returned (.bool r)∧Below W.heap.size W w') (hQ:∀W,Below w9.heap.size w9 W→Q .normal ⟨abz base [(some 19,pO gt),(some 20,pO gt),(some 21,pO gt),(some 22,.slice (some ⟨gl,0,none⟩) m cl),(some 23,iV (K:Nat)),(some 24,.pointer (some ⟨gl,K*6,none⟩)),(some 25,.pointer (some ⟨gl,K*6+2,none⟩)),(some 26,.agg #[iV xt,iV xn]),(some 27,.agg #[iV at_,iV an]),(some 28,.bool r)],dd⟩ W):
  (Code.region 5 ops true).wp Tryz.prog Q ⟨base,dd⟩ w9:=by
 obtain rfl:=Option.some.inj ((show Tryz.f86.body.bind (alz 5)=some _ from rfl).symm.trans hops);clear hops
 refine rU (by kernel_rfl) 78 hsz (by kernel_rfl) rfl hQ λLL hLe b W Ii Oo a hS hcl ho hb hd ev kp yl=> ?_
 have vv2:aaz LL 2=pO gt:=vL hLe rfl
 have vv3:aaz LL 3=.slice (some ⟨gl,0,none⟩) m cl:=vL hLe rfl
 have vv7:aaz LL 7=.agg #[iV xt,iV xn]:=vL hLe rfl
 have vv8:aaz LL 8=.agg #[iV at_,iV an]:=vL hLe rfl
 have vv9:aaz LL 9=.bool r:=vL hLe rfl
 have Vv:=aV hLe;have Ee:=aE hLe rfl ev
 have e0:=(kp 0 (by kernel_rfl)).trans b0
 have e6:=(kp 6 (by kernel_rfl)).trans b6
 have d9_0:=(hS.cell (p:=⟨gl,K*6+2,none⟩) (a4z hx0)).trans hx0
 have d9_1:=(hS.cell (p:=⟨gl,K*6+3,none⟩) (a4z hx1)).trans hx1
 simp only[AV,AE,Nat.zero_add,Nat.reduceAdd,and_true]at Vv Ee
 match Ii with
 |0|1|2|4|5|6|7=>simp only[qq]at ho;subst ho;have hd:=aD hd;simp only[AD,and_true]at hd;simp only[Vv];exact dV (by simp[execOp,go_sem,Ee,d9_0,d9_1,e0,e6,hKm,hd]) hS
 |3=>simp only[qq]at ho;subst ho;have e21:=eD ev hd 2 21 vv2;have hB9:=(hS.block _ (block_lt hgt)).trans hgt;have d0:W.cell? ⟨gt,0,none⟩=some (.slice (some ⟨gl,0,none⟩) m cl):=(cellOf hB9 0).trans rfl;rw[vv3];exact dV (by simp[execOp,go_sem,e21,d0]) hS
 |8=>simp only[qq]at ho;subst ho;have e3:=(kp 3 (by kernel_rfl)).trans b3;have hB9:=(hS.block _ (block_lt hbx)).trans hbx;have d0:W.cell? ⟨bx,0,none⟩=some (iV at_):=(cellOf hB9 0).trans rfl;have d1:W.cell? ⟨bx,1,none⟩=some (iV an):=(cellOf hB9 1).trans rfl;rw[vv8];exact dV (by simp[execOp,go_sem,e3,d0,d1]) hS
 |9=>
  simp only[qq]at ho;subst ho;have e26:=eD ev hd 7 26 vv7;have e27:=eD ev hd 8 27 vv8;rw[vv9]
  refine ayz rfl nofun (f:=15) (args:= #[.agg #[iV xt,iV xn],.agg #[iV at_,iV an]]) ?_ ?_
  ·simp[go_sem,e26,e27]
  ·exact(cK W hS).mono (λe w' h=>⟨h.1,hS.trans (h.2.mono hS.size)⟩)
 |k+10=>simp at ho
theorem c3z (base g s:Nat) (T:List OB) (t n:Int) (w:World) (h:TreeY w base g T s):Calls Tryz.prog 14 #[.pointer (some ⟨g,0,none⟩),idv t n] w λe w'=>e=.returned (.int .i64 (dyz T t n))∧Below w.heap.size w w':=by
 obtain⟨w1,hw1⟩:∃w1,w1=w.alloc (.cells #[.int .i64 t,.int .i64 n] 28):=⟨_,rfl⟩
 have hB1:Below w.heap.size w w1:=by rw[hw1];exact(a3z w _).out
 have hx1:w1.heap[w.heap.size]? =some (.cells #[.int .i64 t,.int .i64 n] 28 (0,0)):=by rw[hw1];exact heap_alloc_new w _
 have HT:Hid (TreeY w1 base g T s∧w1.heap[w.heap.size]? =some (.cells #[.int .i64 t,.int .i64 n] 28 (0,0))∧Below w.heap.size w w1):=⟨h.below hB1,hx1,hB1⟩
 have HW:=a0z hw1
 have hlen:=h.len
 obtain⟨m,hm⟩:∃m,T.length=m:=⟨_,rfl⟩
 have HM:=a0z hm
 rw[hm]at hlen
 clear hw1 hB1 hx1 h hm
 go_enter Tryz.func14,Tryz.ntmps14
 go_wp2_with fail
 rw[← HW.out]
 go_loopw [5] (λvi wr=>∃i:Nat,vi=.int .i64 i∧i≤m∧Hid (Below w1.heap.size w1 wr∧∀j,j<i→∀o,T[j]? =some o→azz o.it o.ii t n=false)) (λvi _=>m-(intOf vi).toNat)
 case atStart=>exact⟨0,rfl,Nat.zero_le _,Below.refl _ _,λj hj=>absurd hj (by omega)⟩
 case round=>
  obtain⟨i,rfl,him,HI⟩:=hrel
  have hT:=HT.out.1.below HI.out.1
  obtain⟨p,c,hc,hv⟩:=hT.view
  rw[HM.out]at hc
  have c0:wr.cell? ⟨g,0,none⟩=some (.slice p m c):=cellOf hc 0
  by_cases hie:i=m
  ·subst hie
   have HF:Hid (dyz T t n= -1):=by
    show _=_
    unfold dyz
    have:aoz T t n=none:=List.findIdx?_eq_none_iff.2 (λo ho=>by
     obtain⟨j,hj,e⟩:=List.getElem_of_mem ho
     exact HI.out.2 j (by have:=HM.out;omega) o (by rw[List.getElem?_eq_getElem hj,e]))
    rw[this]
   clear hT hv hc
   go_wp2_with fail
   go_ret
   rw[HF.out]
   exact⟨rfl,HT.out.2.2.trans (HI.out.1.mono HT.out.2.2.size)⟩
  ·have hlt:i<m:=by omega
   obtain⟨o,ho⟩:∃o,T[i]? =some o:=⟨_,List.getElem?_eq_getElem (by rw[HM.out];exact hlt)⟩
   obtain⟨gl,rfl,hcl⟩:∃gl,p=some ⟨gl,0,none⟩∧(wr.cell? ⟨gl,i*6,none⟩=some (.int .i64 o.it)∧wr.cell? ⟨gl,i*6+1,none⟩=some (.int .i64 o.ii)):=by
    rcases hv with e|⟨gl,e,hk⟩
    ·rw[e]at ho;simp at ho
    ·exact⟨gl,e,(hk i o ho).1,(hk i o ho).2.1⟩
   have hbx:=(HI.out.1.block _ (block_lt HT.out.2.1)).trans HT.out.2.1
   have HC:Hid (wr.heap[g]? =some (.cells #[.slice (some ⟨gl,0,none⟩) m c,.int .i64 (s:Nat)] 51 (0,0))∧wr.heap[w.heap.size]? =some (.cells #[.int .i64 t,.int .i64 n] 28 (0,0))∧wr.cell? ⟨gl,i*6,none⟩=some (.int .i64 o.it)∧wr.cell? ⟨gl,i*6+1,none⟩=some (.int .i64 o.ii)∧T[i]? =some o):=⟨hc,hbx,hcl.1,hcl.2,ho⟩
   clear hT hv hc hcl hbx ho
   go_wp2_with fail
   refine khz (by kernel_rfl) g w.heap.size gl m c i s t n o.it o.ii (azz o.it o.ii t n) _ rfl rfl rfl rfl hlt HC.out.1 HC.out.2.1 HC.out.2.2.1 HC.out.2.2.2.1 (λW _=>bTz _ _ _ _ W) ?_
   intro W hS
   have HWW:Hid (Below w1.heap.size w1 W):=HI.out.1.trans (hS.mono HI.out.1.size)
   clear hS
   simp only[abz,sA,sB,sC]
   cases hs:azz o.it o.ii t n
   ·go_wp2_with fail
    go_roundw
    case rel=>
     refine⟨i+1,rfl,by omega,HWW.out,λj hj x hx=> ?_⟩
     by_cases hji:j<i
     ·exact HI.out.2 j hji x hx
     ·have:j=i:=by omega
      subst this
      rw[HC.out.2.2.2.2]at hx
      cases hx
      exact hs
    case measure=>simp[intOf];omega
   ·have HF:Hid (dyz T t n=(i:Int)):=by
     show _=_
     unfold dyz
     obtain⟨hi,e⟩:=List.getElem?_eq_some_iff.1 HC.out.2.2.2.2
     have:aoz T t n=some i:=List.findIdx?_eq_some_iff_getElem.2 ⟨hi,by rw[e];exact hs,λj hj=>by
      have:=HI.out.2 j hj T[j] (List.getElem?_eq_getElem (by omega))
      simpa using this⟩
     rw[this]
    go_wp2_with fail
    go_ret
    rw[HF.out]
    exact⟨rfl,HT.out.2.2.trans (HWW.out.mono HT.out.2.2.size)⟩
end Go.Proofs.YthhakekbffembaaGreatDoor.Ck.Y

namespace Go.Proofs.YthhakekbffembaaGreatDoor.Ck.Y
open Go.RowKit Go.Maps
variable {T:List OB} {k:Nat}
theorem cnz {t n:Int} (h:aoz T t n=some k):dyz T t n=(k:Int):=by unfold dyz;rw[h]
theorem ckz {t n:Int} (h:aoz T t n=none):dyz T t n= -1:=by unfold dyz;rw[h]
theorem TreeY.ob {w:World} {base g s:Nat} (h:TreeY w base g T s) {o:OB} (hk:T[k]? =some o):∃gl c,w.heap[g]? =some (.cells #[.slice (some ⟨gl,0,none⟩) T.length c,.int .i64 (s:Nat)] 51 (0,0))∧
  w.cell? ⟨gl,k*6,none⟩=some (.int .i64 o.it)∧w.cell? ⟨gl,k*6+1,none⟩=some (.int .i64 o.ii)∧w.cell? ⟨gl,k*6+2,none⟩=some (.int .i64 o.pt)∧w.cell? ⟨gl,k*6+3,none⟩=some (.int .i64 o.pn)∧w.cell? ⟨gl,k*6+4,none⟩=some (.string o.nm)∧w.cell? ⟨gl,k*6+5,none⟩=some (.bool o.dir):=by
 obtain⟨p,c,hc,hv⟩:=h.view
 rcases hv with e|⟨gl,rfl,hh⟩
 ·rw[e]at hk;simp at hk
 ·exact⟨gl,c,hc,hh k o hk⟩
theorem f6z (base g s:Nat) (T:List OB) (t n:Int) (w:World) (h:TreeY w base g T s):Calls Tryz.prog 37 #[.pointer (some ⟨g,0,none⟩),idv t n] w λe w'=>e=.returned (.bool (aAz T t n))∧Below w.heap.size w w':=by
 obtain⟨w1,hw1⟩:∃w1,w1=w.alloc (.cells #[.int .i64 t,.int .i64 n] 28):=⟨_,rfl⟩
 have hB1:Below w.heap.size w w1:=by rw[hw1];exact(a3z w _).out
 have hx1:w1.heap[w.heap.size]? =some (.cells #[.int .i64 t,.int .i64 n] 28 (0,0)):=by rw[hw1];exact heap_alloc_new w _
 have HT:Hid (TreeY w1 base g T s∧w1.heap[w.heap.size]? =some (.cells #[.int .i64 t,.int .i64 n] 28 (0,0))∧Below w.heap.size w w1):=⟨h.below hB1,hx1,hB1⟩
 have HW:=a0z hw1
 clear hw1 hB1 hx1 h
 go_enter Tryz.func37,Tryz.ntmps37
 go_wp2_with fail
 rw[← HW.out]
 go_at_call 77
 refine(jKz t n w1).mono ?_
 rintro e w2 ⟨rfl,hB2⟩
 have HB2:=a0z hB2
 clear hB2
 cases hr:aGz t n
 ·have hx2:=(HB2.out.block _ (block_lt HT.out.2.1)).trans HT.out.2.1
  have x20:w2.cell? ⟨w.heap.size,0,none⟩=some (.int .i64 t):=cellOf hx2 0
  have x21:w2.cell? ⟨w.heap.size,1,none⟩=some (.int .i64 n):=cellOf hx2 1
  go_wp2_with fail
  go_at_call 78
  refine(f1z t n w2).mono ?_
  rintro e w3 ⟨rfl,hB3⟩
  have HB3:Hid (Below w1.heap.size w1 w3):=HB2.out.trans (hB3.mono HB2.out.size)
  clear hB3 hx2 x20 x21 HB2
  cases ht:awz t n
  ·have hx3:=(HB3.out.block _ (block_lt HT.out.2.1)).trans HT.out.2.1
   have x30:w3.cell? ⟨w.heap.size,0,none⟩=some (.int .i64 t):=cellOf hx3 0
   have x31:w3.cell? ⟨w.heap.size,1,none⟩=some (.int .i64 n):=cellOf hx3 1
   go_wp2_with fail
   go_at_call 14
   refine(c3z base g s T t n w3 (HT.out.1.below HB3.out)).mono ?_
   rintro e w4 ⟨rfl,hB4⟩
   have HB4:Hid (Below w1.heap.size w1 w4):=HB3.out.trans (hB4.mono HB3.out.size)
   clear hB4 hx3 x30 x31 HB3
   cases hf:aoz T t n with
   |none=>
    rw[ckz hf]
    go_wp2_with fail
    go_ret
    exact⟨by simp[aAz,hr,ht,hf],HT.out.2.2.trans (HB4.out.mono HT.out.2.2.size)⟩
   |some k=>
    rw[cnz hf]
    obtain⟨o,ho,_⟩:=aCz hf
    obtain⟨gl,c,hc,_,_,_,_,_,c5⟩:=(HT.out.1.below HB4.out).ob ho
    have hl:T.length<1000000:=HT.out.1.len
    obtain⟨hk,_⟩:=List.getElem?_eq_some_iff.1 ho
    obtain⟨m,hm⟩:∃m,T.length=m:=⟨_,rfl⟩
    rw[hm]at hc hl hk
    have c0:w4.cell? ⟨g,0,none⟩=some (.slice (some ⟨gl,0,none⟩) m c):=cellOf hc 0
    have HE:Hid (aAz T t n=o.dir):=by show _=_;simp[aAz,hr,ht,hf,ho]
    clear hm hc hf
    go_wp2_with fail
    go_ret
    exact⟨by rw[HE.out];rfl,HT.out.2.2.trans (HB4.out.mono HT.out.2.2.size)⟩
  ·go_wp2_with fail
   go_ret
   exact⟨by simp[aAz,ht],HT.out.2.2.trans (HB3.out.mono HT.out.2.2.size)⟩
 ·go_wp2_with fail
  go_ret
  exact⟨by simp[aAz,hr],HT.out.2.2.trans (HB2.out.mono HT.out.2.2.size)⟩
def mz (T:List OB) (r:Int×Int→Nat) (z:Int):Nat:=if z<0 then 0 else match T[z.toNat]? with|some o=>r (o.it,o.ii)+1|none=>0
theorem iZz {r:Int×Int→Nat} {a:Int×Int} (h:aoz T a.1 a.2=some k):mz T r (k:Int)=r a+1:=by
 obtain⟨o,ho,e1,e2⟩:=aCz h
 unfold mz
 rw[if_neg (by omega),Int.toNat_natCast,ho]
 show r (o.it,o.ii)+1=_
 rw[e1,e2]
theorem o9z {r:Int×Int→Nat} (a:Int×Int):mz T r (dyz T a.1 a.2)≤r a+1:=by
 cases h:aoz T a.1 a.2 with
 |none=>rw[ckz h];unfold mz;rw[if_pos (by omega)];exact Nat.zero_le _
 |some k=>rw[cnz h,iZz h];exact Nat.le_refl _
theorem hWz (base g s:Nat) (T:List OB) (t n t' n':Int) (w:World) (h:TreeY w base g T s) (hr:Ranked T):Calls Tryz.prog 17 #[.pointer (some ⟨g,0,none⟩),idv t n,idv t' n'] w λe w'=>∃r:Bool,e=.returned (.bool r)∧(r=true↔Bel T (t,n) (t',n'))∧Below w.heap.size w w':=by
 obtain⟨r,hr⟩:=hr
 obtain⟨w0,hw0⟩:∃w0,w0=w.alloc (.cells #[.int .i64 t,.int .i64 n] 28):=⟨_,rfl⟩
 obtain⟨w1,hw1⟩:∃w1,w1=w0.alloc (.cells #[.int .i64 t',.int .i64 n'] 28):=⟨_,rfl⟩
 have hB0:Below w.heap.size w w0:=by rw[hw0];exact(a3z w _).out
 have hs0:w0.heap.size=w.heap.size+1:=by rw[hw0];simp
 have hB1:Below w0.heap.size w0 w1:=by rw[hw1];exact(a3z w0 _).out
 have hx1:w1.heap[w0.heap.size]? =some (.cells #[.int .i64 t',.int .i64 n'] 28 (0,0)):=by rw[hw1];exact heap_alloc_new w0 _
 have HT:Hid (TreeY w1 base g T s∧w1.heap[w0.heap.size]? =some (.cells #[.int .i64 t',.int .i64 n'] 28 (0,0))∧Below w.heap.size w w1):=⟨(h.below hB0).below hB1,hx1,hB0.trans (hB1.mono hB0.size)⟩
 have HW:=a0z (agz hw0 hw1)
 have HR:=a0z hr
 obtain⟨m,hm⟩:∃m,T.length=m:=⟨_,rfl⟩
 have hlen:m<1000000:=by rw[← hm];exact h.len
 have HM:=a0z hm
 clear hw0 hw1 hB0 hB1 hx1 h hr hm
 go_enter Tryz.func17,Tryz.ntmps17
 go_wp2_with fail
 rw[← HW.out.1,← HW.out.2]
 go_at_call 14
 refine(c3z base g s T t n w1 HT.out.1).mono ?_
 rintro e w2 ⟨rfl,hB2⟩
 have HB2:=a0z hB2
 clear hB2
 obtain⟨bx,hbx⟩:∃bx,w.heap.size+1=bx:=⟨_,rfl⟩
 rw[hs0,hbx]at HT
 rw[hbx]
 clear hbx HW hs0
 go_wp2_with fail
 go_loopw [7] (λvi wr=>∃a:Int×Int,vi=.int .i64 (dyz T a.1 a.2)∧Hid (Below w1.heap.size w1 wr∧(Bel T (t,n) (t',n')↔Bel T a (t',n')))) (λvi _=>mz T r (intOf vi))
 case atStart=>exact⟨(t,n),rfl,HB2.out,Iff.rfl⟩
 case round=>
  clear HB2
  obtain⟨a,rfl,HI⟩:=hrel
  cases hf:aoz T a.1 a.2 with
  |none=>
   have HF:Hid (¬Bel T (t,n) (t',n')):=λhb=>Bel.not (lmz hf) (HI.out.2.1 hb)
   rw[ckz hf]
   clear hf
   go_wp2_with fail
   go_ret
   exact⟨false,rfl,⟨λe=>(by cases e),λhb=>absurd hb HF.out⟩,HT.out.2.2.trans (HI.out.1.mono HT.out.2.2.size)⟩
  |some k=>
   rw[cnz hf]
   obtain⟨o,ho,_⟩:=aCz hf
   have hu:=lcz hf ho
   have HK:=a0z (agz hf (agz ho hu))
   have hk:k<m:=by rw[← HM.out];exact(List.getElem?_eq_some_iff.1 ho).1
   obtain⟨gl,c,hc,_,_,c2,c3,_,_⟩:=(HT.out.1.below HI.out.1).ob ho
   rw[HM.out]at hc
   have hbx:=(HI.out.1.block _ (block_lt HT.out.2.1)).trans HT.out.2.1
   have HC:=a0z (agz hc (agz hbx (agz c2 c3)))
   clear hf ho hu hc hbx c2 c3
   go_wp2_with fail
   refine iGz (by kernel_rfl) g bx gl m c k s t' n' o.pt o.pn (azz o.pt o.pn t' n') _ rfl rfl rfl rfl hk HC.out.1 HC.out.2.1 HC.out.2.2.1 HC.out.2.2.2 (λW _=>bTz _ _ _ _ W) ?_
   intro W hS
   have HWW:=a0z hS
   clear hS
   simp only[abz,sA,sB,sC]
   cases hs:azz o.pt o.pn t' n'
   ·have c0:W.cell? ⟨g,0,none⟩=some (.slice (some ⟨gl,0,none⟩) m c):=cellOf ((HWW.out.block _ (block_lt HC.out.1)).trans HC.out.1) 0
    have c2:W.cell? ⟨gl,k*6+2,none⟩=some (.int .i64 o.pt):=(HWW.out.cell (p:=⟨gl,k*6+2,none⟩) (a4z HC.out.2.2.1)).trans HC.out.2.2.1
    have c3:W.cell? ⟨gl,k*6+3,none⟩=some (.int .i64 o.pn):=(HWW.out.cell (p:=⟨gl,k*6+3,none⟩) (a4z HC.out.2.2.2)).trans HC.out.2.2.2
    go_wp2_with fail
    go_at_call 14
    refine(c3z base g s T o.pt o.pn W (HT.out.1.below (HI.out.1.trans (HWW.out.mono HI.out.1.size)))).mono ?_
    rintro e W2 ⟨rfl,hB3⟩
    have HB3:=a0z hB3
    clear hB3 c0 c2 c3
    go_wp2_with fail
    go_roundw
    case rel=>
     have hWW:=HI.out.1.trans (HWW.out.mono HI.out.1.size)
     refine⟨(o.pt,o.pn),rfl,hWW.trans (HB3.out.mono hWW.size),HI.out.2.trans (Bel.next HK.out.2.2 ?_)⟩
     intro e
     cases e
     exact absurd hs (by simp[azz])
    case measure=>
     show mz T r (dyz T o.pt o.pn)<mz T r (k:Int)
     have h1:=o9z (T:=T) (r:=r) (o.pt,o.pn)
     have h2:=HR.out _ _ HK.out.2.2
     rw[iZz (r:=r) HK.out.1]
     exact Nat.lt_of_le_of_lt h1 (by omega)
   ·have HF:Hid (Bel T (t,n) (t',n')):=HI.out.2.2 (.one (by
     obtain⟨e1,e2⟩:=sameB_iff.1 hs
     rw[HK.out.2.2,e1,e2]))
    go_wp2_with fail
    go_ret
    have hWW:=HI.out.1.trans (HWW.out.mono HI.out.1.size)
    exact⟨true,rfl,⟨λ_=>HF.out,λ_=>rfl⟩,HT.out.2.2.trans (hWW.mono HT.out.2.2.size)⟩
end Go.Proofs.YthhakekbffembaaGreatDoor.Ck.Y

namespace Go.Proofs.YthhakekbffembaaGreatDoor.Ck.Y
open Go.RowKit Go.Maps
variable {base g s:Nat} {w w':World} {T:List OB}
def MY (base:Nat) (w:World) (k:Nat):Prop:=base≤k∧∃cs t fr,w.heap[k]? =some (.cells cs t fr)∧(t=51∨t=48)
def Fy (base:Nat) (w w':World):Prop:=Only (MY base w) w w'
theorem Fy.next {a b c:World} (h:Fy base a b) (k:Fy base b c):Fy base a c:=by
 refine⟨k.os.trans h.os,k.tape.trans h.tape,k.output.trans h.output,Nat.le_trans h.size k.size,λi hi hn=> ?_⟩
 have e:=h.block i hi hn
 refine(k.block i (Nat.lt_of_lt_of_le hi h.size) (λhm=>hn ?_)).trans e
 unfold MY at*
 rw[e]at hm
 exact hm
theorem Fy.of_below (h:Below w.heap.size w w'):Fy base w w':=Below.only h _
theorem Fy.toBelow (h:Fy base w w') (hb:base≤w.heap.size):Below base w w':=Only.below h hb (λ_ h=>h.1)
theorem Fy.keep (h:Fy base w w') {k:Nat} {cs:Array Value} {t:TypeId} {fr:Nat×Nat} (hk:w.heap[k]? =some (.cells cs t fr)) (h1:t≠51) (h2:t≠48):w'.heap[k]? =some (.cells cs t fr):=by
 refine(h.block k (block_lt hk) ?_).trans hk
 rintro⟨_,cs',t',fr',e,ht⟩
 rw[hk]at e
 simp only[Option.some.injEq,Obj.cells.injEq]at e
 rw[← e.2.1]at ht
 exact ht.elim h1 h2
theorem RowG.fy {base':Nat} {v:Value} {l:List OG} (h:RowG w base v l) (hf:Fy base' w w'):RowG w' base v l:=by
 refine⟨h.1, ?_⟩
 rcases h.2 with e|⟨g,cp,cur,hv,hbs,hblk,r⟩
 ·exact .inl e
 ·exact .inr ⟨g,cp,cur,hv,hbs,hf.keep hblk (by decide) (by decide),r⟩
theorem TreeY.skip (h:TreeY w base g T s):TreeY (w.setCell ⟨g,1,none⟩ (.int .i64 ((s+1:Nat):Int))) base g T (s+1)∧Fy base w (w.setCell ⟨g,1,none⟩ (.int .i64 ((s+1:Nat):Int))):=by
 obtain⟨v,h1,h2⟩:=h.cell
 have hO:Only (· =g) w (w.setCell ⟨g,1,none⟩ (.int .i64 ((s+1:Nat):Int))):=Only.setCell w ⟨g,1,none⟩ _ rfl
 refine⟨⟨h.lo,⟨v, ?_,h2.1, ?_⟩,h.len⟩,Only.setCell w ⟨g,1,none⟩ _ ⟨h.lo,_,_,_,h1,.inl rfl⟩⟩
 ·rw[a7z h1]
  rfl
 ·rcases h2.2 with e|⟨gl,cap,cur,hv,hb,hblk,r⟩
  ·exact .inl e
  ·exact .inr ⟨gl,cap,cur,hv,hb,(hO.block gl (block_lt hblk) (aiz hblk h1 (by decide))).trans hblk,r⟩
theorem dfz (x:OB):(obL x).length=6:=rfl
theorem eTz:∀(T:List OB) (k:Nat) (b:OB) (pt pn:Int) (nm:ByteArray),T[k]? =some b→
  btz (T.set k ⟨b.it,b.ii,pt,pn,nm,b.dir⟩)=(((btz T).set (k*6+2) (.int .i64 pt)).set (k*6+3) (.int .i64 pn)).set (k*6+4) (.string nm)
 |[],_,_,_,_,_,h=>by simp at h
 |y::T,0,b,pt,pn,nm,h=>by
  have:y=b:=by simpa using h
  subst this
  rfl
 |y::T,k+1,b,pt,pn,nm,h=>by
  have ih:=eTz T k b pt pn nm (by simpa using h)
  rw[List.set_cons_succ,btz,ih,btz]
  rw[show(k+1)*6+2=(obL y).length+(k*6+2) by rw[dfz];omega,show(k+1)*6+3=(obL y).length+(k*6+3) by rw[dfz];omega,show(k+1)*6+4=(obL y).length+(k*6+4) by rw[dfz];omega]
  simp only[List.set_append_right _ _ (Nat.le_add_right _ _),Nat.add_sub_cancel_left]
theorem TreeY.moved (h:TreeY w base g T s) {k:Nat} {b:OB} (hk:T[k]? =some b) {gl m c:Nat} (hc:w.heap[g]? =some (.cells #[.slice (some ⟨gl,0,none⟩) m c,.int .i64 (s:Nat)] 51 (0,0))) (pt pn:Int) (nm:ByteArray):
  TreeY (((w.setCell ⟨gl,k*6+2,none⟩ (.int .i64 pt)).setCell ⟨gl,k*6+3,none⟩ (.int .i64 pn)).setCell ⟨gl,k*6+4,none⟩ (.string nm)) base g (T.set k ⟨b.it,b.ii,pt,pn,nm,b.dir⟩) s∧
  Fy base w (((w.setCell ⟨gl,k*6+2,none⟩ (.int .i64 pt)).setCell ⟨gl,k*6+3,none⟩ (.int .i64 pn)).setCell ⟨gl,k*6+4,none⟩ (.string nm)):=by
 obtain⟨v,h1,h2⟩:=h.cell
 rw[hc]at h1
 have ev:v=.slice (some ⟨gl,0,none⟩) m c:=by
  have h3:=h1
  simp only[Option.some.injEq,Obj.cells.injEq]at h3
  have:=h3.1
  simp at this
  exact this.symm
 subst ev
 rcases h2.2 with⟨e,_⟩|⟨g',cap,cur,hv,hb,hblk,h3,h4,h5,h6⟩
 ·cases e
 ·cases hv
  have k1:=a7z hblk (k:=k*6+2) (.int .i64 pt)
  have k2:=a7z k1 (k:=k*6+3) (.int .i64 pn)
  have k3:=a7z k2 (k:=k*6+4) (.string nm)
  have hne:=aiz hblk hc (by decide)
  have hO:Only (· =gl) w (((w.setCell ⟨gl,k*6+2,none⟩ (.int .i64 pt)).setCell ⟨gl,k*6+3,none⟩ (.int .i64 pn)).setCell ⟨gl,k*6+4,none⟩ (.string nm)):=
   ((Only.setCell (S:=(· =gl)) w ⟨gl,k*6+2,none⟩ _ rfl).next (Only.setCell (S:=(· =gl)) _ ⟨gl,k*6+3,none⟩ _ rfl)).next (Only.setCell (S:=(· =gl)) _ ⟨gl,k*6+4,none⟩ _ rfl)
  refine⟨⟨h.lo,⟨.slice (some ⟨gl,0,none⟩) T.length c, ?_, ?_,.inr ⟨gl,c,_,by rw[List.length_set],hb,k3,by rw[List.length_set];exact h3,h4, ?_, ?_⟩⟩,by rw[List.length_set];exact h.len⟩, ?_⟩
  ·exact(hO.block g (block_lt hc) (λe=>hne e.symm)).trans hc
  ·rw[dxz]
  ·simp only[Array.size_setIfInBounds];exact h5
  ·rw[eTz T k b pt pn nm hk,← h6,List.length_set]
   simp only[Array.toList_setIfInBounds,List.take_set]
  ·refine⟨hO.os,hO.tape,hO.output,hO.size,λi hi hn=>hO.block i hi ?_⟩
   rintro rfl
   exact hn ⟨hb,_,_,_,hblk,.inr rfl⟩
theorem ocz:∃i,Tryz.prog.info? 48=some i∧i.zero=some (.agg #[.int .i64 0,.int .i64 0,.int .i64 0,.int .i64 0,.string ⟨#[]⟩,.bool false])∧i.size=6∧i.bytes=56:=by
 have e:(Tryz.prog.info? 48).map (λi=>(i.zero,i.size,i.bytes))=some (some (.agg #[.int .i64 0,.int .i64 0,.int .i64 0,.int .i64 0,.string ⟨#[]⟩,.bool false]),6,56):=by kernel_rfl
 obtain⟨i,hi,he⟩:=Option.map_eq_some_iff.1 e
 injection he with h1 h2
 injection h2 with h2 h3
 exact⟨i,hi,h1,h2,h3⟩
theorem gyz {W:World} {e:TypeId} {size:Nat} {v:Value} {n:Nat} {xs:List Value} (h:W.ownsRow base e size v n xs) (hg:v.ownBlock=some g):∃cs fr,W.heap[g]? =some (.cells cs e fr)∧base≤g:=by
 rcases h.2 with⟨rfl,_⟩|⟨g',cap,cur,rfl,hb,hblk,_⟩
 ·simp[Value.ownBlock]at hg
 ·have e':g'=g:=by simpa[Value.ownBlock]using hg
  subst e'
  exact⟨cur,_,hblk,hb⟩
theorem mmz (x:OB):∀v∈obL x,v.oneCell'=true:=by
 intro v hv
 simp only[obL,List.mem_cons,List.not_mem_nil,or_false]at hv
 rcases hv with rfl|rfl|rfl|rfl|rfl|rfl<;>rfl
theorem TreeY.more {W1:World} (h:TreeY w base g T s) (x:OB) (hl:T.length<999999) {p:Option Addr} {m c:Nat} (hc:w.heap[g]? =some (.cells #[.slice p m c,.int .i64 (s:Nat)] 51 (0,0))) (hW1:W1=w.drew.alloc (.cells (obL x).toArray 48)):
  ∃p1 k1 W2,(Builtin.append_ #[49,49] 49 #[.slice p m c,.slice (some ⟨w.heap.size,0,none⟩) 1 1]).run Tryz.prog W1=.ok (.slice p1 (m+1) k1) W2∧W2.heap[g]? =some (.cells #[.slice p m c,.int .i64 (s:Nat)] 51 (0,0))∧(∀(k:Nat) (cs:Array Value) (t:TypeId) (fr:Nat×Nat),w.heap[k]? =some (.cells cs t fr)→t≠48→W1.heap[k]? =some (.cells cs t fr)∧W2.heap[k]? =some (.cells cs t fr))∧
   TreeY (W2.setCell ⟨g,0,none⟩ (.slice p1 (m+1) k1)) base g (T++[x]) s∧Fy base w (W2.setCell ⟨g,0,none⟩ (.slice p1 (m+1) k1)):=by
 obtain⟨v,h1,h2⟩:=h.cell
 rw[hc]at h1
 have ev:v=.slice p m c:=by
  have h3:=h1
  simp only[Option.some.injEq,Obj.cells.injEq]at h3
  have:=h3.1
  simp at this
  exact this.symm
 subst ev
 have hm:m=T.length:=by
  obtain⟨p',c',e⟩:=own_slice h2
  injection e
 subst hm
 obtain⟨i0,hi0,hz0,hz1,hz2⟩:=ocz
 have hbw:base≤w.heap.size:=Nat.le_trans h.lo (Nat.le_of_lt (block_lt hc))
 have hb1:Below w.heap.size w W1:=by
  rw[hW1]
  have:=(a3z w.drew (.cells (obL x).toArray 48)).out
  exact⟨this.os,this.tape,this.output,this.size,this.block⟩
 have hn1:W1.heap[w.heap.size]? =some (.cells (obL x).toArray 48 (0,0)):=by rw[hW1];exact heap_alloc_new w.drew _
 have hs1:W1.heap.size=w.heap.size+1:=by rw[hW1];simp
 have hr1:=own_below h2 hb1
 have hc1:=(hb1.block g (block_lt hc)).trans hc
 obtain⟨v1,W2,hrun,hown,hgr,_,hpl⟩:=run_append_own_at (P:=Tryz.prog) (w:=W1) base 49 49 48 i0 _ 6 56 Tryz.underlying49 hi0 hz0 hz1 hz2 rfl (by decide) (.slice p T.length c) T.length (btz T) hr1 ⟨w.heap.size,0,none⟩ 1 1 (obL x) rfl
  (λj u hj=>by
   rw[Addr.add_lit,Nat.zero_add,cellOf hn1 j]
   simpa using hj) (mmz x) (by unfold maxLen;omega) (by omega) (by omega)
 obtain⟨p1,k1,rfl⟩:=own_slice hown
 have hgg:∀(k:Nat) (cs:Array Value) (t:TypeId) (fr:Nat×Nat),W1.heap[k]? =some (.cells cs t fr)→t≠48→W2.heap[k]? =some (.cells cs t fr):=λk cs t fr hk ht=>by
  refine(hgr.block k (block_lt hk) (λe=> ?_)).trans hk
  obtain⟨cs',fr',e',_⟩:=gyz hr1 e.symm
  rw[hk]at e'
  simp only[Option.some.injEq,Obj.cells.injEq]at e'
  exact ht e'.2.1
 have hc2:=hgg _ _ _ _ hc1 (by decide)
 have hO3:Only (· =g) W2 (W2.setCell ⟨g,0,none⟩ (.slice p1 (T.length+1) k1)):=Only.setCell (S:=(· =g)) W2 ⟨g,0,none⟩ _ rfl
 have hll:(T++[x]).length=T.length+1:=by simp
 refine⟨p1,k1,W2,hrun,hc2,λk cs t fr hk ht=>⟨(hb1.block k (block_lt hk)).trans hk,hgg k cs t fr ((hb1.block k (block_lt hk)).trans hk) ht⟩,⟨h.lo,⟨.slice p1 (T.length+1) k1, ?_, ?_⟩,by omega⟩, ?_⟩
 ·rw[a7z hc2]
  rfl
 ·have e:btz (T++[x])=btz T++obL x:=by rw[dHz];simp[btz]
  rw[hll,e]
  refine⟨hown.1, ?_⟩
  rcases hown.2 with e|⟨g',cp,cur,hv,hbs,hblk,r⟩
  ·exact .inl e
  ·exact .inr ⟨g',cp,cur,hv,hbs,(hO3.block g' (block_lt hblk) (aiz hblk hc2 (by decide))).trans hblk,r⟩
 ·refine⟨hO3.os.trans (hgr.os.trans hb1.os),hO3.tape.trans (hgr.tape.trans hb1.tape),hO3.output.trans (hgr.output.trans hb1.output),Nat.le_trans (Nat.le_trans hb1.size hgr.size) hO3.size,λk hk hn=> ?_⟩
  have e1:=hb1.block k hk
  have hk1:k<W1.heap.size:=by omega
  have e2:=hgr.block k hk1 (λe=>by
   obtain⟨cs,fr,hcs,hlo⟩:=gyz hr1 e.symm
   exact hn ⟨hlo,cs,_,fr,by rw[← e1];exact hcs,.inr rfl⟩)
  have e3:=hO3.block k (Nat.lt_of_lt_of_le hk1 hgr.size) (λe=>hn (by subst e;exact⟨h.lo,_,_,_,hc,.inl rfl⟩))
  exact e3.trans (e2.trans e1)
end Go.Proofs.YthhakekbffembaaGreatDoor.Ck.Y

namespace Go.Proofs.YthhakekbffembaaGreatDoor.Ck.Y
open Go.RowKit Go.Maps
def cHz (base g s:Nat) (T:List OB) (o:OG) (w:World) (e:Ending) (w':World):Prop:=e=.returned (.tuple #[])∧∃T' s',StepT T s o T' s'∧TreeY w' base g T' s'∧Fy base w w'
theorem TreeY.skipped {w W:World} {base g s:Nat} {T:List OB} (h:TreeY w base g T s) (hb:Below w.heap.size w W):∃p c,W.heap[g]? =some (.cells #[.slice p T.length c,.int .i64 (s:Nat)] 51 (0,0))∧Hid (TreeY (W.setCell ⟨g,1,none⟩ (.int .i64 ((s:Int)+1))) base g T (s+1)∧Fy base w (W.setCell ⟨g,1,none⟩ (.int .i64 ((s:Int)+1)))):=by
 obtain⟨p,c,hc,_⟩:=(h.below hb).view
 have hh:=(h.below hb).skip
 rw[show((s+1:Nat):Int)=(s:Int)+1 by omega]at hh
 exact⟨p,c,hc,hh.1,(Fy.of_below hb).next hh.2⟩
theorem TreeY.row {w:World} {base g s:Nat} {T:List OB} (h:TreeY w base g T s) {gl m c:Nat} (hc:w.heap[g]? =some (.cells #[.slice (some ⟨gl,0,none⟩) m c,.int .i64 (s:Nat)] 51 (0,0))):∃cur,w.heap[gl]? =some (.cells cur 48 (0,0)):=by
 obtain⟨v,h1,h2⟩:=h.cell
 rw[hc]at h1
 simp only[Option.some.injEq,Obj.cells.injEq]at h1
 have ev:=h1.1
 simp at ev
 subst ev
 rcases h2.2 with⟨e,_⟩|⟨g',cap,cur,hv,hb,hblk,_⟩
 ·cases e
 ·cases hv
  exact⟨cur,hblk⟩
theorem h6z (kd:Int) (dr:Bool) (hk:(kd=1∧dr=true)∨(kd=2∧dr=false)) (base gt s:Nat) (T:List OB) (t n sq ot on pt pn:Int) (nm:ByteArray) (dp:Option Addr) (dl dc:Nat) (sp:Option Addr) (sl sc:Nat) (w:World) (h:TreeY w base gt T s) (hl:T.length<999999) (hs:s<1000000):
  Calls Tryz.prog 76 #[.pointer (some ⟨gt,0,none⟩),b2z ⟨t,n,sq,kd,ot,on,pt,pn,nm,dp,dl,dc,sp,sl,sc⟩] w (cHz base gt s T ⟨t,n,sq,kd,ot,on,pt,pn,nm,dp,dl,dc,sp,sl,sc⟩ w):=by
 obtain⟨w1,hw1⟩:∃w1,w1=w.alloc (.cells #[.int .i64 t,.int .i64 n,.int .i64 sq,.int .i64 kd,.int .i64 ot,.int .i64 on,.int .i64 pt,.int .i64 pn,.string nm,.slice dp dl dc,.slice sp sl sc] 33):=⟨_,rfl⟩
 have hB1:Below w.heap.size w w1:=by rw[hw1];exact(a3z w _).out
 have hx1:w1.heap[w.heap.size]? =some (.cells #[.int .i64 t,.int .i64 n,.int .i64 sq,.int .i64 kd,.int .i64 ot,.int .i64 on,.int .i64 pt,.int .i64 pn,.string nm,.slice dp dl dc,.slice sp sl sc] 33 (0,0)):=by rw[hw1];exact heap_alloc_new w _
 have HT:Hid (TreeY w1 base gt T s∧w1.heap[w.heap.size]? =some (.cells #[.int .i64 t,.int .i64 n,.int .i64 sq,.int .i64 kd,.int .i64 ot,.int .i64 on,.int .i64 pt,.int .i64 pn,.string nm,.slice dp dl dc,.slice sp sl sc] 33 (0,0))∧Below w.heap.size w w1):=⟨h.below hB1,hx1,hB1⟩
 have H0:=a0z h
 have HW:=a0z hw1
 have sI:(s:Int)<1000000:=by omega
 obtain⟨bx,hbx⟩:∃bx,w.heap.size=bx:=⟨_,rfl⟩
 have HBX:=a0z hbx
 rw[hbx]at hx1
 have HX:=a0z hx1
 clear hw1 hB1 hx1 h hbx
 obtain⟨kv,hkv⟩:∃kv,kv=Value.int .i64 kd:=⟨_,rfl⟩
 obtain⟨A,hA⟩:∃A:Array Value,A= #[.int .i64 t,.int .i64 n,.int .i64 sq,.int .i64 kd,.int .i64 ot,.int .i64 on,.int .i64 pt,.int .i64 pn,.string nm,.slice dp dl dc,.slice sp sl sc]:=⟨_,rfl⟩
 obtain⟨og,hog⟩:∃og:OG,og=⟨t,n,sq,kd,ot,on,pt,pn,nm,dp,dl,dc,sp,sl,sc⟩:=⟨_,rfl⟩
 rcases hk with⟨rfl,hdr⟩|⟨rfl,hdr⟩
 all_goals
  go_enter Tryz.func76,Tryz.ntmps76
  go_wp2_with fail
  rw[← HW.out,HBX.out]
  go_at_call 78
  refine(f1z pt pn w1).mono ?_
  rintro e w2 ⟨rfl,hB⟩
  have Hw2:=a0z hB
  clear hB
  cases ht:awz pt pn
  case true=>
   obtain⟨p,c,hc,HS⟩:=H0.out.skipped (W:=w2) (HT.out.2.2.trans (Hw2.out.mono HT.out.2.2.size))
   have c1:w2.cell? ⟨gt,1,none⟩=some (.int .i64 (s:Nat)):=cellOf hc 1
   have f1:=aez hc 1
   clear hc
   go_wp2_with fail
   go_end0
   exact⟨rfl,_,_,.made (by first|exact .inl rfl|exact .inr rfl) (.inl ht),HS.out.1,HS.out.2⟩
  case false=>
   have hx:=(Hw2.out.block _ (block_lt HX.out)).trans HX.out
   have x4:w2.cell? ⟨bx,4,none⟩=some (.int .i64 ot):=cellOf hx 4
   have x5:w2.cell? ⟨bx,5,none⟩=some (.int .i64 on):=cellOf hx 5
   have x6:w2.cell? ⟨bx,6,none⟩=some (.int .i64 pt):=cellOf hx 6
   have x7:w2.cell? ⟨bx,7,none⟩=some (.int .i64 pn):=cellOf hx 7
   clear hx
   go_wp2_with fail
   go_at_call 37
   refine(f6z base gt s T pt pn w2 (HT.out.1.below Hw2.out)).mono ?_
   rintro e w3 ⟨rfl,hB⟩
   have Hw3:Hid (Below w1.heap.size w1 w3):=Hw2.out.trans (hB.mono Hw2.out.size)
   clear hB
   clear x4 x5 x6 x7
   cases hd:aAz T pt pn
   case false=>
    obtain⟨p,c,hc,HS⟩:=H0.out.skipped (W:=w3) (HT.out.2.2.trans (Hw3.out.mono HT.out.2.2.size))
    have c1:w3.cell? ⟨gt,1,none⟩=some (.int .i64 (s:Nat)):=cellOf hc 1
    have f1:=aez hc 1
    clear hc
    go_wp2_with fail
    go_end0
    exact⟨rfl,_,_,.made (by first|exact .inl rfl|exact .inr rfl) (.inr (.inl hd)),HS.out.1,HS.out.2⟩
   case true=>
    have hx:=(Hw3.out.block _ (block_lt HX.out)).trans HX.out
    have x4:w3.cell? ⟨bx,4,none⟩=some (.int .i64 ot):=cellOf hx 4
    have x5:w3.cell? ⟨bx,5,none⟩=some (.int .i64 on):=cellOf hx 5
    have x6:w3.cell? ⟨bx,6,none⟩=some (.int .i64 pt):=cellOf hx 6
    have x7:w3.cell? ⟨bx,7,none⟩=some (.int .i64 pn):=cellOf hx 7
    clear hx
    go_wp2_with fail
    go_at_call 14
    refine(c3z base gt s T ot on w3 (HT.out.1.below Hw3.out)).mono ?_
    rintro e w4 ⟨rfl,hB⟩
    have Hw4:Hid (Below w1.heap.size w1 w4):=Hw3.out.trans (hB.mono Hw3.out.size)
    clear hB
    clear x4 x5 x6 x7
    cases hf:aoz T ot on with
    |some k=>
     rw[cnz hf]
     have HF:=a0z hf
     clear hf
     have kI:¬((k:Int)<0):=by omega
     generalize (k:Int)=z at kI⊢
     have kD:decide (z<0)=false:=by simpa using kI
     obtain⟨p,c,hc,HS⟩:=H0.out.skipped (W:=w4) (HT.out.2.2.trans (Hw4.out.mono HT.out.2.2.size))
     have c1:w4.cell? ⟨gt,1,none⟩=some (.int .i64 (s:Nat)):=cellOf hc 1
     have f1:=aez hc 1
     clear hc
     go_wp2_with fail
     go_end0
     exact⟨rfl,_,_,.made (by first|exact .inl rfl|exact .inr rfl) (.inr (.inr ⟨k,HF.out⟩)),HS.out.1,HS.out.2⟩
    |none=>
     rw[ckz hf]
     obtain⟨p,c,hc,_⟩:=(HT.out.1.below Hw4.out).view
     obtain⟨m,hm⟩:∃m,T.length=m:=⟨_,rfl⟩
     rw[hm]at hc
     have hx:=(Hw4.out.block _ (block_lt HX.out)).trans HX.out
     rw[← hA]at hx
     obtain⟨W1,hW1⟩:∃W1,W1=w4.drew.alloc (.cells #[.int .i64 ot,.int .i64 on,.int .i64 pt,.int .i64 pn,.string nm,.bool dr] 48):=⟨_,rfl⟩
     obtain⟨p1,k1,W2,hrun,hc2,hkp,hT3,hF3⟩:=(HT.out.1.below Hw4.out).more ⟨ot,on,pt,pn,nm,dr⟩ hl hc hW1
     obtain⟨W3,hW3⟩:∃W3,W3=W2.setCell ⟨gt,0,none⟩ (.slice p1 (m+1) k1):=⟨_,rfl⟩
     rw[← hW3]at hT3 hF3
     have H3:Hid (TreeY W3 base gt (T++[⟨ot,on,pt,pn,nm,dr⟩]) s∧Fy base w W3):=⟨hT3,(Fy.of_below (HT.out.2.2.trans (Hw4.out.mono HT.out.2.2.size))).next hF3⟩
     have hbox:∀W,(W=W3∨W=W2∨W=W1∨W=w4.drew)→W.heap[bx]? =some (.cells A 33 (0,0)):=by
      rintro W (rfl|rfl|rfl|rfl)
      ·exact hF3.keep hx (by decide) (by decide)
      ·exact(hkp _ _ _ _ hx (by decide)).2
      ·exact(hkp _ _ _ _ hx (by decide)).1
      ·exact hx
     have c0:w4.drew.cell? ⟨gt,0,none⟩=some (.slice p m c):=cellOf hc 0
     have c1:W1.cell? ⟨gt,0,none⟩=some (.slice p m c):=cellOf (hkp _ _ _ _ hc (by decide)).1 0
     have c2:W2.cell? ⟨gt,0,none⟩=some (.slice p m c):=cellOf hc2 0
     have f2:=aez hc2 0
     have hmix:=hmx
     have HSt:Hid (StepT T s og (T++[⟨ot,on,pt,pn,nm,dr⟩]) s):=by show StepT _ _ _ _ _;rw[hog,hdr];exact .make (by first|exact .inl rfl|exact .inr rfl) ht hd hf
     clear hc hx hkp hT3 hF3 hc2 hm hl
     go_wp2_with fail
     obtain⟨LL,hLe⟩:∃LL:Unit→List (Option Tmp×Value),LL=(λ_:Unit=>([(some 27,.pointer (some ⟨gt,0,none⟩)),(some 28,.pointer (some ⟨gt,0,none⟩)),(some 29,.pointer (some ⟨gt,0,none⟩)),(some 30,.pointer (some ⟨gt,0,none⟩)),(some 31,.slice p m c),(some 32,.pointer (some ⟨bx,4,none⟩)),(some 33,.agg #[.int .i64 ot,.int .i64 on]),(some 34,.pointer (some ⟨bx,6,none⟩)),(some 35,.agg #[.int .i64 pt,.int .i64 pn]),(some 36,.pointer (some ⟨bx,8,none⟩)),(some 37,.string nm),(some 38,.pointer (some ⟨bx,3,none⟩)),(some 39,kv),(some 40,.bool dr),(some 41,.agg #[.int .i64 ot,.int .i64 on,.int .i64 pt,.int .i64 pn,.string nm,.bool dr]),(some 42,.slice (some ⟨w4.heap.size,0,none⟩) 1 1),(some 43,.slice p1 (m+1) k1),(some 44,.pointer (some ⟨gt,0,none⟩)),(some 45,.pointer (some ⟨gt,0,none⟩)),(none,undef)]:List (Option Tmp×Value))):=⟨_,rfl⟩
     have vv:=λg=>aV (congrFun hLe g)
     simp only[AV,Nat.zero_add,Nat.reduceAdd,and_true,forall_and]at vv
     obtain⟨vv0,vv1,vv2,vv3,vv4,vv5,vv6,vv7,vv8,vv9,vv10,vv11,vv12,vv13,vv14,vv15,vv16,vv17,vv18,vv19⟩:=vv
     refine axz hmix (by kernel_rfl) 102 rfl (by kernel_rfl) () LL (λg=>by rw[hLe];rfl) (λ(_:Unit) b W=>W=if b 19=true then W3 else if b 16=true then W2 else if b 15=true then W1 else w4.drew) rfl ?_ ?_
     ·intro g b W io Oo a' hS hcl ho hb hd ev kp yl
      have Vv:=aV (congrFun hLe g);have Ee:=aE (congrFun hLe g) rfl ev
      have e0:a'.tmps[0]?.getD undef=.pointer (some ⟨gt,0,none⟩):=kp 0 (aqz (by kernel_rfl))
      have e3:a'.tmps[3]?.getD undef=.pointer (some ⟨bx,0,none⟩):=kp 3 (aqz (by kernel_rfl))
      have hW4:W=W3∨W=W2∨W=W1∨W=w4.drew:=by (rw[hS];cases b 19<;>cases b 16<;>cases b 15<;>simp)
      have hx:=hbox W hW4
      have x4:W.cell? ⟨bx,4,none⟩=some (.int .i64 ot):=(cellOf hx 4).trans (by rw[hA];rfl)
      have x5:W.cell? ⟨bx,5,none⟩=some (.int .i64 on):=(cellOf hx 5).trans (by rw[hA];rfl)
      have x6:W.cell? ⟨bx,6,none⟩=some (.int .i64 pt):=(cellOf hx 6).trans (by rw[hA];rfl)
      have x7:W.cell? ⟨bx,7,none⟩=some (.int .i64 pn):=(cellOf hx 7).trans (by rw[hA];rfl)
      have x8:W.cell? ⟨bx,8,none⟩=some (.string nm):=(cellOf hx 8).trans (by rw[hA];rfl)
      have x3:W.cell? ⟨bx,3,none⟩=some kv:=(cellOf hx 3).trans (by rw[hA,hkv];rfl)
      simp only[AV,AE,Nat.zero_add,Nat.reduceAdd,and_true]at Vv Ee
      match io with
      |0|1|2|3|5|6|7|8|9|10|11|12|13|14|17|18=>simp only[qq]at ho;subst ho;have hd:=aD hd;simp only[AD,and_true]at hd;refine a9z rfl nofun ?_ ⟨g,λ_ _=>rfl,rfl,by simpa[did]using hS⟩;simp only[Vv];simp[execOp,go_sem,Ee,e0,e3,hd,hdr,hkv,x3,x4,x5,x6,x7,x8]
      |4=>
       simp only[qq]at ho;subst ho;have e30:=eD ev hd 3 30 (vv3 g);have h97:b 19=true→b 16=true:=λh=>hcl 19 _ rfl h ⟨16,.data⟩ (by simp) rfl
       have h7:b 16=false:=by cases h:b 16;rfl;rw[hcl 16 _ rfl h ⟨4,.data⟩ (by simp) rfl]at hb;cases hb
       have h9:b 19=false:=by cases h:b 19;rfl;rw[h97 h]at h7;cases h7
       rw[h9,h7]at hS;have hl:W.cell? ⟨gt,0,none⟩=some (.slice p m c):=by (rw[hS];cases b 15;exact c0;exact c1)
       refine a9z rfl nofun (v:=.slice p m c) (w':=W) ?_ ⟨g,λ_ _=>rfl,(vv4 g).symm, ?_⟩
       ·simp[execOp,go_sem,e30,hl]
       ·simpa[did,h9,h7]using hS
      |15=>
       simp only[qq]at ho;subst ho;have e41:=eD ev hd 14 41 (vv14 g);have h97:b 19=true→b 16=true:=λh=>hcl 19 _ rfl h ⟨16,.data⟩ (by simp) rfl
       have h7:b 16=false:=by cases h:b 16;rfl;rw[hcl 16 _ rfl h ⟨15,.data⟩ (by simp) rfl]at hb;cases hb
       have h9:b 19=false:=by cases h:b 19;rfl;rw[h97 h]at h7;cases h7
       rw[h9,h7,hb]at hS;have hW:W=w4.drew:=hS;subst hW
       refine a9z rfl nofun (v:=.slice (some ⟨w4.heap.size,0,none⟩) 1 1) (w':=W1) ?_ ⟨g,λ_ _=>rfl,(vv15 g).symm, ?_⟩
       ·simp[execOp,go_sem,e41,hW1]
       ·simp[did,h9,h7]
      |16=>
       simp only[qq]at ho;subst ho;have p15:=hD hd 15;have e31:=eD ev hd 4 31 (vv4 g);have e42:=(ev 15 42 rfl p15).trans (vv15 g);have h97:b 19=true→b 16=true:=λh=>hcl 19 _ rfl h ⟨16,.data⟩ (by simp) rfl
       have h9:b 19=false:=by cases h:b 19;rfl;rw[h97 h]at hb;cases hb
       rw[h9,hb,p15]at hS;have hW:W=W1:=hS;subst hW;have q7:a'.eval (.tmp 31)=.slice p m c:=by simp[go_sem,e31]
       have q10:a'.eval (.tmp 42)=.slice (some ⟨w4.heap.size,0,none⟩) 1 1:=by simp[go_sem,e42]
       refine a9z rfl nofun (v:=.slice p1 (m+1) k1) (w':=W2) ?_ ⟨g,λ_ _=>rfl,(vv16 g).symm, ?_⟩
       ·simp only[execOp,resolve,invoke,builtin,Sem.run_bind,Sem.run_pure,Result.andThen_ok,List.map_toArray,List.map_cons,List.map_nil,q7,q10,hrun]
       ·simp[did,h9]
      |19=>
       simp only[qq]at ho;subst ho;have p16:=hD hd 16;have e45:=eD ev hd 18 45 (vv18 g);have e43:=(ev 16 43 rfl p16).trans (vv16 g);rw[hb,p16]at hS;have hW:W=W2:=hS;subst hW
       refine blz rfl nofun (w':=W3) ?_ ⟨g,λ_ _=>rfl,(vv19 g).symm, ?_⟩
       ·simp[execOp,go_sem,e45,e43,c2,f2,hW3]
       ·exact by simp[did]
      |k+20=>simp at ho
     ·intro _ b W hS hall
      subst hLe
      rw[hall 19 (by decide)]at hS
      have hW:W=W3:=hS
      clear hS
      subst hW
      clear hW3 hall hrun c0 c1 c2 f2 hW1 hbox
      go_wp2_with fail
      go_end0
      exact⟨rfl,_,_,hog▸HSt.out,H3.out.1,H3.out.2⟩
theorem kHz (base g s:Nat) (T:List OB) (t n sq ot on pt pn:Int) (nm:ByteArray) (dp:Option Addr) (dl dc:Nat) (sp:Option Addr) (sl sc:Nat) (w:World) (h:TreeY w base g T s) (hr:Ranked T) (hs:s<1000000):
  Calls Tryz.prog 76 #[.pointer (some ⟨g,0,none⟩),b2z ⟨t,n,sq,3,ot,on,pt,pn,nm,dp,dl,dc,sp,sl,sc⟩] w (cHz base g s T ⟨t,n,sq,3,ot,on,pt,pn,nm,dp,dl,dc,sp,sl,sc⟩ w):=by
 have HR:=a0z hr
 clear hr
 obtain⟨w1,hw1⟩:∃w1,w1=w.alloc (.cells #[.int .i64 t,.int .i64 n,.int .i64 sq,.int .i64 3,.int .i64 ot,.int .i64 on,.int .i64 pt,.int .i64 pn,.string nm,.slice dp dl dc,.slice sp sl sc] 33):=⟨_,rfl⟩
 have hB1:Below w.heap.size w w1:=by rw[hw1];exact(a3z w _).out
 have hx1:w1.heap[w.heap.size]? =some (.cells #[.int .i64 t,.int .i64 n,.int .i64 sq,.int .i64 3,.int .i64 ot,.int .i64 on,.int .i64 pt,.int .i64 pn,.string nm,.slice dp dl dc,.slice sp sl sc] 33 (0,0)):=by rw[hw1];exact heap_alloc_new w _
 have HT:Hid (TreeY w1 base g T s∧w1.heap[w.heap.size]? =some (.cells #[.int .i64 t,.int .i64 n,.int .i64 sq,.int .i64 3,.int .i64 ot,.int .i64 on,.int .i64 pt,.int .i64 pn,.string nm,.slice dp dl dc,.slice sp sl sc] 33 (0,0))∧Below w.heap.size w w1):=⟨h.below hB1,hx1,hB1⟩
 have H0:=a0z h
 have HW:=a0z hw1
 have sI:(s:Int)<1000000:=by omega
 obtain⟨bx,hbx⟩:∃bx,w.heap.size=bx:=⟨_,rfl⟩
 have HBX:=a0z hbx
 rw[hbx]at hx1
 have HX:=a0z hx1
 clear hw1 hB1 hx1 h hbx
 go_enter Tryz.func76,Tryz.ntmps76
 go_wp2_with fail
 rw[← HW.out,HBX.out]
 go_at_call 14
 refine(c3z base g s T ot on w1 HT.out.1).mono ?_
 rintro e w2 ⟨rfl,hB⟩
 have Hw2:=a0z hB
 clear hB
 cases hf:aoz T ot on with
 |none=>
  rw[ckz hf]
  obtain⟨p,c,hc,HS⟩:=H0.out.skipped (W:=w2) (HT.out.2.2.trans (Hw2.out.mono HT.out.2.2.size))
  have c1:w2.cell? ⟨g,1,none⟩=some (.int .i64 (s:Nat)):=cellOf hc 1
  have f1:=aez hc 1
  clear hc
  go_wp2_with fail
  go_end0
  exact⟨rfl,_,_,.moved rfl (.inl hf),HS.out.1,HS.out.2⟩
 |some k=>
  rw[cnz hf]
  have HF:=a0z hf
  obtain⟨b,hb,_,_⟩:=aCz hf
  have HK:=a0z hb
  have hkT:=(List.getElem?_eq_some_iff.1 hb).1
  obtain⟨m,hm⟩:∃m,T.length=m:=⟨_,rfl⟩
  have HM:=a0z hm
  have hml:m<1000000:=by rw[← hm];exact HT.out.1.len
  rw[hm]at hkT
  clear hf hb hm
  have kI:(0:Int)≤(k:Int):=by omega
  have kD:decide ((0:Int)≤(k:Int))=true:=by simp
  have hx:=(Hw2.out.block _ (block_lt HX.out)).trans HX.out
  have x4:w2.cell? ⟨bx,4,none⟩=some (.int .i64 ot):=cellOf hx 4
  have x5:w2.cell? ⟨bx,5,none⟩=some (.int .i64 on):=cellOf hx 5
  have x6:w2.cell? ⟨bx,6,none⟩=some (.int .i64 pt):=cellOf hx 6
  have x7:w2.cell? ⟨bx,7,none⟩=some (.int .i64 pn):=cellOf hx 7
  clear hx
  go_wp2_with fail
  go_at_call 37
  refine(f6z base g s T pt pn w2 (HT.out.1.below Hw2.out)).mono ?_
  rintro e w3 ⟨rfl,hB⟩
  have Hw3:Hid (Below w1.heap.size w1 w3):=Hw2.out.trans (hB.mono Hw2.out.size)
  clear hB
  clear x4 x5 x6 x7
  cases hd:aAz T pt pn
  case false=>
   obtain⟨p,c,hc,HS⟩:=H0.out.skipped (W:=w3) (HT.out.2.2.trans (Hw3.out.mono HT.out.2.2.size))
   have c1:w3.cell? ⟨g,1,none⟩=some (.int .i64 (s:Nat)):=cellOf hc 1
   have f1:=aez hc 1
   clear hc
   go_wp2_with fail
   go_end0
   exact⟨rfl,_,_,.moved rfl (.inr (.inl hd)),HS.out.1,HS.out.2⟩
  case true=>
   have hx:=(Hw3.out.block _ (block_lt HX.out)).trans HX.out
   have x4:w3.cell? ⟨bx,4,none⟩=some (.int .i64 ot):=cellOf hx 4
   have x5:w3.cell? ⟨bx,5,none⟩=some (.int .i64 on):=cellOf hx 5
   have x6:w3.cell? ⟨bx,6,none⟩=some (.int .i64 pt):=cellOf hx 6
   have x7:w3.cell? ⟨bx,7,none⟩=some (.int .i64 pn):=cellOf hx 7
   clear hx
   go_wp2_with fail
   go_at_call 15
   refine(bTz pt pn ot on w3).mono ?_
   rintro e w4 ⟨rfl,hB⟩
   have Hw4:Hid (Below w1.heap.size w1 w4):=Hw3.out.trans (hB.mono Hw3.out.size)
   clear hB
   clear x4 x5 x6 x7
   cases hs:azz pt pn ot on
   case true=>
    obtain⟨p,c,hc,HS⟩:=H0.out.skipped (W:=w4) (HT.out.2.2.trans (Hw4.out.mono HT.out.2.2.size))
    have c1:w4.cell? ⟨g,1,none⟩=some (.int .i64 (s:Nat)):=cellOf hc 1
    have f1:=aez hc 1
    clear hc
    go_wp2_with fail
    go_end0
    exact⟨rfl,_,_,.moved rfl (.inr (.inr (.inl (sameB_iff.1 hs)))),HS.out.1,HS.out.2⟩
   case false=>
    have hx:=(Hw4.out.block _ (block_lt HX.out)).trans HX.out
    have x4:w4.cell? ⟨bx,4,none⟩=some (.int .i64 ot):=cellOf hx 4
    have x5:w4.cell? ⟨bx,5,none⟩=some (.int .i64 on):=cellOf hx 5
    have x6:w4.cell? ⟨bx,6,none⟩=some (.int .i64 pt):=cellOf hx 6
    have x7:w4.cell? ⟨bx,7,none⟩=some (.int .i64 pn):=cellOf hx 7
    clear hx
    go_wp2_with fail
    go_at_call 17
    refine(hWz base g s T pt pn ot on w4 (HT.out.1.below Hw4.out) HR.out).mono ?_
    rintro e w5 ⟨r,rfl,hr,hB⟩
    have Hw5:Hid (Below w1.heap.size w1 w5):=Hw4.out.trans (hB.mono Hw4.out.size)
    have HB:=a0z hr
    clear hB hr x4 x5 x6 x7
    cases r
    case true=>
     obtain⟨p,c,hc,HS⟩:=H0.out.skipped (W:=w5) (HT.out.2.2.trans (Hw5.out.mono HT.out.2.2.size))
     have c1:w5.cell? ⟨g,1,none⟩=some (.int .i64 (s:Nat)):=cellOf hc 1
     have f1:=aez hc 1
     clear hc
     go_wp2_with fail
     go_end0
     exact⟨rfl,_,_,.moved rfl (.inr (.inr (.inr (HB.out.1 (by simp))))),HS.out.1,HS.out.2⟩
    case false=>
     have HSt:Hid (StepT T s ⟨t,n,sq,3,ot,on,pt,pn,nm,dp,dl,dc,sp,sl,sc⟩ (T.set k (aQz ⟨t,n,sq,3,ot,on,pt,pn,nm,dp,dl,dc,sp,sl,sc⟩ b)) s):=.move rfl HF.out HK.out hd (sameB_no.1 hs) (λhh=>by have:=HB.out.2 hh;cases this)
     have hT5:=HT.out.1.below Hw5.out
     obtain⟨gl,c,hc,_,_,c2,c3,c4,_⟩:=hT5.ob HK.out
     obtain⟨curL,hgl⟩:=hT5.row hc
     have hx:=(Hw5.out.block _ (block_lt HX.out)).trans HX.out
     have hmv:=hT5.moved HK.out hc pt pn nm
     have H5:Hid (TreeY (((w5.setCell ⟨gl,k*6+2,none⟩ (.int .i64 pt)).setCell ⟨gl,k*6+3,none⟩ (.int .i64 pn)).setCell ⟨gl,k*6+4,none⟩ (.string nm)) base g (T.set k ⟨b.it,b.ii,pt,pn,nm,b.dir⟩) s∧Fy base w (((w5.setCell ⟨gl,k*6+2,none⟩ (.int .i64 pt)).setCell ⟨gl,k*6+3,none⟩ (.int .i64 pn)).setCell ⟨gl,k*6+4,none⟩ (.string nm))):=⟨hmv.1,(Fy.of_below (HT.out.2.2.trans (Hw5.out.mono HT.out.2.2.size))).next hmv.2⟩
     rw[HM.out]at hc
     have c0:w5.cell? ⟨g,0,none⟩=some (.slice (some ⟨gl,0,none⟩) m c):=cellOf hc 0
     have f2:w5.frozen? ⟨gl,k*6+2,none⟩=false:=aez hgl _
     have f3:w5.frozen? ⟨gl,k*6+3,none⟩=false:=aez hgl _
     have f4:w5.frozen? ⟨gl,k*6+4,none⟩=false:=aez hgl _
     have n1:¬g=gl:=λe=>aiz hgl hc (by decide) e.symm
     have n2:¬gl=g:=λe=>aiz hgl hc (by decide) e
     have n3:¬bx=gl:=λe=>aiz hgl hx (by decide) e.symm
     have n4:¬gl=bx:=λe=>aiz hgl hx (by decide) e
     have x6:w5.cell? ⟨bx,6,none⟩=some (.int .i64 pt):=cellOf hx 6
     have x7:w5.cell? ⟨bx,7,none⟩=some (.int .i64 pn):=cellOf hx 7
     have x8:w5.cell? ⟨bx,8,none⟩=some (.string nm):=cellOf hx 8
     clear hc hgl hx hT5 hmv
     go_wp2_with fail
     go_region
     ·go_wp2_with fail
      go_region
      ·go_wp2_with fail
       go_end0
       exact⟨rfl,_,_,HSt.out,H5.out.1.below ((Below.refl _ _).drew.drew),H5.out.2.next (Fy.of_below ((Below.refl _ _).drew.drew))⟩
theorem kYz (kd:Int) (h1:¬kd=1) (h2:¬kd=2) (h3:¬kd=3) (base g s:Nat) (T:List OB) (t n sq ot on pt pn:Int) (nm:ByteArray) (dp:Option Addr) (dl dc:Nat) (sp:Option Addr) (sl sc:Nat) (w:World) (h:TreeY w base g T s):
  Calls Tryz.prog 76 #[.pointer (some ⟨g,0,none⟩),b2z ⟨t,n,sq,kd,ot,on,pt,pn,nm,dp,dl,dc,sp,sl,sc⟩] w (cHz base g s T ⟨t,n,sq,kd,ot,on,pt,pn,nm,dp,dl,dc,sp,sl,sc⟩ w):=by
 have H0:=a0z h
 have HN:Hid (¬(kd=1∨kd=2∨kd=3)):=λe=>by omega
 have HB:Hid (∀o,Below w.heap.size w (w.alloc o)):=λo=>(a3z w o).out
 clear h
 go_enter Tryz.func76,Tryz.ntmps76
 go_wp2_with fail
 go_end0
 exact⟨rfl,T,s,.other HN.out,H0.out.below (HB.out _),Fy.of_below (HB.out _)⟩
end Go.Proofs.YthhakekbffembaaGreatDoor.Ck.Y
