import Derived.Test.YthhakekbffembaaGreatDoorQPa
import Derived.Maps.OwnOps
import Derived.Lib.BufferWrite
import Derived.Lib.UnsafeStr
import Derived.DeepKeys
set_option maxRecDepth 8000
set_option maxHeartbeats 4000000

namespace Go.Proofs.YthhakekbffembaaGreatDoor.Ck.Y
open Go.RowKit Go.Maps Go.Lib
variable {Q:Exit→Act→World→Prop} {base:Array Value} {dd:List Deferred} {ops:Array Oper}
theorem chz {B:Nat} {w w':World} (h:Below B w.drew w'):Below B w w':=⟨h.os,h.tape,h.output,h.size,h.block⟩
structure AtK (L:List Nat) (ky:Nat→PI) (q:PI) (i:Nat) (r:Bool):Prop where
 le:i≤L.length
 lo:∀k x,k<i→L[k]? =some x→avz (ky x) q
 hi:∀k x,i≤k→L[k]? =some x→¬avz (ky x) q
 eq:r=true↔∃x,L[i]? =some x∧ky x=q
theorem AtK.unique {L:List Nat} {ky:Nat→PI} {q:PI} {i j:Nat} {r s:Bool} (h:AtK L ky q i r) (h':AtK L ky q j s):i=j∧r=s:=by
 have e:i=j:=by
  rcases Nat.lt_trichotomy i j with h1|h1|h1
  ·obtain⟨x,hx⟩:∃x,L[i]? =some x:=⟨_,List.getElem?_eq_getElem (by have:=h'.le;omega)⟩
   exact absurd (h'.lo i x h1 hx) (h.hi i x (Nat.le_refl _) hx)
  ·exact h1
  ·obtain⟨x,hx⟩:∃x,L[j]? =some x:=⟨_,List.getElem?_eq_getElem (by have:=h.le;omega)⟩
   exact absurd (h.lo j x h1 hx) (h'.hi j x (Nat.le_refl _) hx)
 subst e
 refine⟨rfl, ?_⟩
 have:=h.eq.trans h'.eq.symm
 cases r<;>cases s<;>simp_all
theorem AtK.exists {L:List Nat} {ky:Nat→PI} (q:PI) (hs:L.Pairwise λa b=>avz (ky a) (ky b)):∃i r,AtK L ky q i r:=by
 induction L with
 |nil=>exact⟨0,false,Nat.le_refl _,λk x hk=>by omega,λk x _ hx=>by simp at hx,by simp⟩
 |cons y L ih=>
  have h1:=List.pairwise_cons.1 hs
  obtain⟨i,r,h⟩:=ih h1.2
  by_cases hy:avz (ky y) q
  ·refine⟨i+1,r,by have:=h.le;simp;omega,λk x hk hx=> ?_,λk x hk hx=> ?_, ?_⟩
   ·cases k with
    |zero=>simp at hx;rw[← hx];exact hy
    |succ k=>exact h.lo k x (by omega) (by simpa using hx)
   ·cases k with
    |zero=>omega
    |succ k=>exact h.hi k x (by omega) (by simpa using hx)
   ·simpa using h.eq
  ·refine⟨0,decide (ky y=q),Nat.zero_le _,λk x hk=>by omega,λk x _ hx=> ?_,by simp⟩
   cases k with
   |zero=>simp at hx;rw[← hx];exact hy
   |succ k=>
    have hm:x∈L:=List.mem_of_getElem? (by simpa using hx)
    exact λe=>hy (bez (h1.1 x hm) e)
theorem fLz {t n t' n':Int} (h:bdz t n t' n'=0):t=t'∧n=n':=by
 unfold bdz at h
 by_cases h1:cEz t t'=0
 ·rw[if_pos h1]at h
  unfold cEz at h h1
  constructor
  ·split at h1
   ·omega
   ·split at h1<;>omega
  ·split at h
   ·omega
   ·split at h<;>omega
 ·rw[if_neg h1]at h;exact absurd h h1
theorem mCz (hops:Tryz.f69.body.bind (alz 1)=some ops) (bb bx:Nat) (t n t' n':Int) (w9:World) (hsz:base.size=11) (b0:base.getD 0 undef=pO bb) (b3:base.getD 3 undef=pO bx) (h0:w9.cell? ⟨bb,0,none⟩=some (iV t)) (h1:w9.cell? ⟨bb,1,none⟩=some (iV n)) (x0:w9.cell? ⟨bx,0,none⟩=some (iV t')) (x1:w9.cell? ⟨bx,1,none⟩=some (iV n')) (cK:∀W,Below w9.heap.size w9 W→Calls Tryz.prog 102 #[idv t n,idv t' n'] W λe w'=>e=.returned (iV (bdz t n t' n'))∧Below W.heap.size W w') (hQ:∀W,Below w9.heap.size w9 W→Q .normal ⟨abz base [(some 5,pO bb),(some 6,pO bb),(some 7,pO bb),(some 8,.agg #[iV t,iV n]),(some 9,.agg #[iV t',iV n']),(some 10,iV (bdz t n t' n')),(some 4,iV (bdz t n t' n'))],dd⟩ W):
  (Code.region 1 ops true).wp Tryz.prog Q ⟨base,dd⟩ w9:=by
 obtain rfl:=Option.some.inj ((show Tryz.f69.body.bind (alz 1)=some _ from rfl).symm.trans hops);clear hops
 refine rU (by kernel_rfl) 11 hsz (by kernel_rfl) rfl hQ λLL hLe b W Ii Oo a hS hcl ho hb hd ev kp yl=> ?_
 have vv3:aaz LL 3=.agg #[iV t,iV n]:=vL hLe rfl
 have vv4:aaz LL 4=.agg #[iV t',iV n']:=vL hLe rfl
 have vv5:aaz LL 5=iV (bdz t n t' n'):=vL hLe rfl
 have Vv:=aV hLe;have Ee:=aE hLe rfl ev
 have e0:=(kp 0 (by kernel_rfl)).trans b0
 have d0:=(hS.cell (p:=⟨bb,0,none⟩) (a4z h0)).trans h0
 have d1:=(hS.cell (p:=⟨bb,1,none⟩) (a4z h1)).trans h1
 simp only[AV,AE,Nat.zero_add,Nat.reduceAdd,and_true]at Vv Ee
 match Ii with
 |0|1|2|3|6=>simp only[qq]at ho;subst ho;have hd:=aD hd;simp only[AD,and_true]at hd;simp only[Vv];exact dV (by simp[execOp,go_sem,Ee,d0,d1,e0,hd]) hS
 |4=>simp only[qq]at ho;subst ho;have e3:=(kp 3 (by kernel_rfl)).trans b3;have d0:=(hS.cell (p:=⟨bx,0,none⟩) (a4z x0)).trans x0;have d1:=(hS.cell (p:=⟨bx,1,none⟩) (a4z x1)).trans x1;rw[vv4];exact dV (by simp[execOp,go_sem,e3,d0,d1]) hS
 |5=>
  simp only[qq]at ho;subst ho;have e8:=eD ev hd 3 8 vv3;have e9:=eD ev hd 4 9 vv4;rw[vv5]
  refine ayz rfl nofun (f:=102) (args:= #[.agg #[iV t,iV n],.agg #[iV t',iV n']]) ?_ ?_
  ·simp[go_sem,e8,e9]
  ·exact(cK W hS).mono (λe w' h=>⟨h.1,hS.trans (h.2.mono hS.size)⟩)
 |k+7=>simp at ho
theorem fiz (hops:Tryz.f68.body.bind (alz 5)=some ops) (g x bx len cp k:Nat) (t n z:Int) (w9:World) (hsz:base.size=49) (b0:base.getD 0 undef=.slice (some ⟨g,0,none⟩) len cp) (b2:base.getD 2 undef=.func (.func 69) #[] #[]) (b4:base.getD 4 undef=pO bx) (b11:base.getD 11 undef=iV (k:Nat)) (hk:k<len) (c0:w9.cell? ⟨g,k,none⟩=some (pO x)) (x0:w9.cell? ⟨bx,0,none⟩=some (iV t)) (x1:w9.cell? ⟨bx,1,none⟩=some (iV n)) (cK:∀W,Below w9.heap.size w9 W→Calls Tryz.prog 69 #[pO x,idv t n] W λe w'=>e=.returned (iV z)∧Below W.heap.size W w') (hQ:∀W,Below w9.heap.size w9 W→Q .normal ⟨abz base [(some 24,.func (.func 69) #[] #[]),(some 25,.slice (some ⟨g,0,none⟩) len cp),(some 26,iV (k:Nat)),(some 27,.pointer (some ⟨g,k,none⟩)),(some 28,pO x),(some 29,.agg #[iV t,iV n]),(some 30,iV z),(some 31,.bool (decide (z<0)))],dd⟩ W):
  (Code.region 5 ops true).wp Tryz.prog Q ⟨base,dd⟩ w9:=by
 obtain rfl:=Option.some.inj ((show Tryz.f68.body.bind (alz 5)=some _ from rfl).symm.trans hops);clear hops
 refine rU (by kernel_rfl) 49 hsz (by kernel_rfl) rfl hQ λLL hLe b W Ii Oo a hS hcl ho hb hd ev kp yl=> ?_
 have vv0:aaz LL 0=.func (.func 69) #[] #[]:=vL hLe rfl
 have vv4:aaz LL 4=pO x:=vL hLe rfl
 have vv5:aaz LL 5=.agg #[iV t,iV n]:=vL hLe rfl
 have vv6:aaz LL 6=iV z:=vL hLe rfl
 have Vv:=aV hLe;have Ee:=aE hLe rfl ev
 have e2:=(kp 2 (by kernel_rfl)).trans b2
 have e0:=(kp 0 (by kernel_rfl)).trans b0
 have e11:=(kp 11 (by kernel_rfl)).trans b11
 have e4:=(kp 4 (by kernel_rfl)).trans b4
 have d9_0:=(hS.cell (p:=⟨g,k,none⟩) (a4z c0)).trans c0
 have d0:=(hS.cell (p:=⟨bx,0,none⟩) (a4z x0)).trans x0
 have d1:=(hS.cell (p:=⟨bx,1,none⟩) (a4z x1)).trans x1
 simp only[AV,AE,Nat.zero_add,Nat.reduceAdd,and_true]at Vv Ee
 match Ii with
 |0|1|2|3|4|5|7=>simp only[qq]at ho;subst ho;have hd:=aD hd;simp only[AD,and_true]at hd;simp only[Vv];exact dV (by simp[execOp,go_sem,Ee,d0,d1,d9_0,e0,e11,e2,e4,hd,hk]) hS
 |6=>
  simp only[qq]at ho;subst ho;have e24:=eD ev hd 0 24 vv0;have e28:=eD ev hd 4 28 vv4;have e29:=eD ev hd 5 29 vv5;rw[vv6]
  refine ayz rfl nofun (f:=69) (args:= #[pO x,.agg #[iV t,iV n]]) ?_ ?_
  ·simp[go_sem,e24,e28,e29]
  ·exact(cK W hS).mono (λe w' h=>⟨h.1,hS.trans (h.2.mono hS.size)⟩)
 |k+8=>simp at ho
theorem i6z (hops:Tryz.f68.body.bind (alz 8)=some ops) (g x bx len cp k:Nat) (t n z:Int) (w9:World) (hsz:base.size=49) (b0:base.getD 0 undef=.slice (some ⟨g,0,none⟩) len cp) (b2:base.getD 2 undef=.func (.func 69) #[] #[]) (b4:base.getD 4 undef=pO bx) (b8:base.getD 8 undef=iV (len:Nat)) (b9:base.getD 9 undef=iV (k:Nat)) (hk:k<len) (c0:w9.cell? ⟨g,k,none⟩=some (pO x)) (x0:w9.cell? ⟨bx,0,none⟩=some (iV t)) (x1:w9.cell? ⟨bx,1,none⟩=some (iV n)) (cK:∀W,Below w9.heap.size w9 W→Calls Tryz.prog 69 #[pO x,idv t n] W λe w'=>e=.returned (iV z)∧Below W.heap.size W w') (hQ:∀W,Below w9.heap.size w9 W→Q .normal ⟨abz base [(some 35,iV (k:Nat)),(some 36,iV (k:Nat)),(some 37,iV (len:Nat)),(some 38,.bool true),(some 39,.bool true),(some 40,.func (.func 69) #[] #[]),(some 41,.slice (some ⟨g,0,none⟩) len cp),(some 42,iV (k:Nat)),(some 43,.pointer (some ⟨g,k,none⟩)),(some 44,pO x),(some 45,.agg #[iV t,iV n]),(some 46,iV z),(some 47,.bool (z==0)),(some 48,.bool (z==0)),(some 6,iV (k:Nat)),(some 7,.bool (z==0))],dd⟩ W):
  (Code.region 8 ops true).wp Tryz.prog Q ⟨base,dd⟩ w9:=by
 obtain rfl:=Option.some.inj ((show Tryz.f68.body.bind (alz 8)=some _ from rfl).symm.trans hops);clear hops
 refine rU (by kernel_rfl) 49 hsz (by kernel_rfl) rfl hQ λLL hLe b W Ii Oo a hS hcl ho hb hd ev kp yl=> ?_
 have vv4:aaz LL 4=.bool true:=vL hLe rfl
 have vv5:aaz LL 5=.func (.func 69) #[] #[]:=vL hLe rfl
 have vv9:aaz LL 9=pO x:=vL hLe rfl
 have vv10:aaz LL 10=.agg #[iV t,iV n]:=vL hLe rfl
 have vv11:aaz LL 11=iV z:=vL hLe rfl
 have Vv:=aV hLe;have Ee:=aE hLe rfl ev
 have e9:=(kp 9 (by kernel_rfl)).trans b9
 have e8:=(kp 8 (by kernel_rfl)).trans b8
 have e2:=(kp 2 (by kernel_rfl)).trans b2
 have e0:=(kp 0 (by kernel_rfl)).trans b0
 have e4:=(kp 4 (by kernel_rfl)).trans b4
 have d9_0:=(hS.cell (p:=⟨g,k,none⟩) (a4z c0)).trans c0
 have d0:=(hS.cell (p:=⟨bx,0,none⟩) (a4z x0)).trans x0
 have d1:=(hS.cell (p:=⟨bx,1,none⟩) (a4z x1)).trans x1
 simp only[AV,AE,Nat.zero_add,Nat.reduceAdd,and_true]at Vv Ee
 match Ii with
 |0|1|2|3|4|13|14|15=>simp only[qq]at ho;subst ho;have hd:=aD hd;simp only[AD,and_true]at hd;simp only[Vv];exact dV (by simp[execOp,go_sem,Ee,e8,e9,hd,hk]) hS
 |5|6|7|8|9|10|12=>simp only[qq]at ho;subst ho;have hy:=yl 4 39 true rfl (hG hd 4) (by simp only[Vv]);have hd:=aD hd;simp only[AD,and_true]at hd;simp only[Vv];exact dG hy (by simp[execOp,go_sem,Ee,d0,d1,d9_0,e0,e2,e4,e9,hd,hk]) hS
 |11=>
  simp only[qq]at ho;subst ho;have e40:=eD ev hd 5 40 vv5;have e44:=eD ev hd 9 44 vv9;have e45:=eD ev hd 10 45 vv10;rw[vv11]
  refine apz rfl (yl 4 39 true rfl (hG hd 4) vv4) nofun (f:=69) (args:= #[pO x,.agg #[iV t,iV n]]) ?_ ?_
  ·simp[go_sem,e40,e44,e45]
  ·exact(cK W hS).mono (λe w' h=>⟨h.1,hS.trans (h.2.mono hS.size)⟩)
 |k+16=>simp at ho
theorem gpz (hops:Tryz.f68.body.bind (alz 8)=some ops) (len:Nat) (w9:World) (hsz:base.size=49) (b8:base.getD 8 undef=iV (len:Nat)) (b9:base.getD 9 undef=iV (len:Nat)) (hQ:∀W,Below w9.heap.size w9 W→Q .normal ⟨abz base [(some 35,iV (len:Nat)),(some 36,iV (len:Nat)),(some 37,iV (len:Nat)),(some 38,.bool false),(some 39,.bool false),(some 40,undef),(some 41,undef),(some 42,undef),(some 43,undef),(some 44,undef),(some 45,undef),(some 46,undef),(some 47,undef),(some 48,.bool false),(some 6,iV (len:Nat)),(some 7,.bool false)],dd⟩ W):
  (Code.region 8 ops true).wp Tryz.prog Q ⟨base,dd⟩ w9:=by
 obtain rfl:=Option.some.inj ((show Tryz.f68.body.bind (alz 8)=some _ from rfl).symm.trans hops);clear hops
 refine rU (by kernel_rfl) 49 hsz (by kernel_rfl) rfl hQ λLL hLe b W Ii Oo a hS hcl ho hb hd ev kp yl=> ?_
 have vv4:aaz LL 4=.bool false:=vL hLe rfl
 have Vv:=aV hLe;have Ee:=aE hLe rfl ev
 have e9:=(kp 9 (by kernel_rfl)).trans b9
 have e8:=(kp 8 (by kernel_rfl)).trans b8
 simp only[AV,AE,Nat.zero_add,Nat.reduceAdd,and_true]at Vv Ee
 match Ii with
 |0|1|2|3|4|13|14|15=>simp only[qq]at ho;subst ho;have hd:=aD hd;simp only[AD,and_true]at hd;simp only[Vv];exact dV (by simp[execOp,go_sem,Ee,e8,e9,hd]) hS
 |5|6|7|8|9|10|11|12=>simp only[qq]at ho;subst ho;exact a1z rfl (yl 4 39 false rfl (hG hd 4) vv4) (by decide) (vL hLe rfl) (hS)
 |k+16=>simp at ho
theorem iSz (b:Nat) (t n t' n':Int) (w:World) (h0:w.cell? ⟨b,0,none⟩=some (.int .i64 t)) (h1:w.cell? ⟨b,1,none⟩=some (.int .i64 n)):
  Calls Tryz.prog 69 #[pv b,idv t' n'] w λe w'=>e=.returned (.int .i64 (bdz t n t' n'))∧Below w.heap.size w w':=by
 have hb1:Below w.heap.size w (w.alloc (.cells #[.int .i64 t',.int .i64 n'] 28)):=(Below.refl _ w).alloc (Nat.le_refl _) _
 have c0:(w.alloc (.cells #[.int .i64 t',.int .i64 n'] 28)).cell? ⟨b,0,none⟩=some (.int .i64 t):=(hb1.cell (p:=⟨b,0,none⟩) (a4z h0)).trans h0
 have c1:(w.alloc (.cells #[.int .i64 t',.int .i64 n'] 28)).cell? ⟨b,1,none⟩=some (.int .i64 n):=(hb1.cell (p:=⟨b,1,none⟩) (a4z h1)).trans h1
 have hlt:b<w.heap.size:=a4z h0
 have c:=λW=>eAz t n t' n' W
 have HB:=a0z hb1
 clear hb1
 unfold pv
 have x0:(w.alloc (.cells #[.int .i64 t',.int .i64 n'] 28)).cell? ⟨w.heap.size,0,none⟩=some (.int .i64 t'):=cellOf (heap_alloc_new w _) 0
 have x1:(w.alloc (.cells #[.int .i64 t',.int .i64 n'] 28)).cell? ⟨w.heap.size,1,none⟩=some (.int .i64 n'):=cellOf (heap_alloc_new w _) 1
 have HC:=a0z (agz c0 (agz c1 (agz x0 x1)))
 clear c0 c1 x0 x1 h0 h1
 go_enter Tryz.func69,Tryz.ntmps69
 go_wp2_with fail
 refine mCz (by kernel_rfl) b w.heap.size t n t' n' _ rfl rfl rfl HC.out.1 HC.out.2.1 HC.out.2.2.1 HC.out.2.2.2 (λW _=>c W) ?_
 intro W hS
 have HS:=a0z hS
 clear hS
 simp only[abz,sA,sB,sC]
 go_wp2_with fail
 go_ret
 exact⟨rfl,HB.out.trans (HS.out.mono HB.out.size)⟩
theorem esz (g cp:Nat) (L:List Nat) (ky:Nat→PI) (t n:Int) (i0:Nat) (r0:Bool) (hat:AtK L ky (t,n) i0 r0) (w:World) (p:Option Addr) (hp:0<L.length→p=some ⟨g,0,none⟩) (hs:L.Pairwise λa b=>avz (ky a) (ky b)) (hl:L.length≤1001) (hlc:L.length≤cp) (hc:∀(i x:Nat),L[i]? =some x→w.cell? ⟨g,i,none⟩=some (pv x)) (hk:∀x∈L,w.cell? ⟨x,0,none⟩=some (.int .i64 (ky x).1)∧w.cell? ⟨x,1,none⟩=some (.int .i64 (ky x).2)):
  Calls Tryz.prog 68 #[.slice p L.length cp,idv t n,.func (.func 69) #[] #[]] w λe w'=>e=.returned (.tuple #[.int .i64 (i0:Nat),.bool r0])∧Below w.heap.size w w':=by
 obtain⟨len,hn⟩:∃len,len=L.length:=⟨_,rfl⟩
 have HN:=a0z hn
 have HC:Hid (∀(W:World),Below w.heap.size w W→∀(i x:Nat),L[i]? =some x→W.cell? ⟨g,i,none⟩=some (.pointer (some ⟨x,0,none⟩))∧W.cell? ⟨x,0,none⟩=some (.int .i64 (ky x).1)∧W.cell? ⟨x,1,none⟩=some (.int .i64 (ky x).2)):=λW hb i x hx=>by
  have h0:=hc i x hx
  obtain⟨h1,h2⟩:=hk x (List.mem_of_getElem? hx)
  exact⟨(hb.cell (p:=⟨g,i,none⟩) (a4z h0)).trans h0,(hb.cell (p:=⟨x,0,none⟩) (a4z h1)).trans h1,(hb.cell (p:=⟨x,1,none⟩) (a4z h2)).trans h2⟩
 have HP:=a0z hp
 have HA:=a0z hat
 clear hat
 have HS:=a0z hs
 rw[← hn]at hl hlc
 rw[← hn]
 clear hn hc hp hs hk
 obtain⟨wb,hwb⟩:∃wb,wb=w.alloc (.cells #[.int .i64 t,.int .i64 n] 28):=⟨_,rfl⟩
 have HB0:Hid (Below w.heap.size w wb):=by rw[hwb];exact(Below.refl _ w).alloc (Nat.le_refl _) _
 have HT:Hid (wb.cell? ⟨w.heap.size,0,none⟩=some (.int .i64 t)∧wb.cell? ⟨w.heap.size,1,none⟩=some (.int .i64 n)):=by
  rw[hwb];exact⟨cellOf (heap_alloc_new w _) 0,cellOf (heap_alloc_new w _) 1⟩
 go_enter Tryz.func68,Tryz.ntmps68
 go_wp2_with fail
 rw[← hwb]
 clear hwb
 go_loopw [9,10] (λii jj wr=>∃i j:Nat,i≤j∧j≤len∧ii=.int .i64 i∧jj=.int .i64 j∧Hid (Below wb.heap.size wb wr∧(∀k x,k<i→L[k]? =some x→avz (ky x) (t,n))∧(∀k x,j≤k→L[k]? =some x→¬avz (ky x) (t,n)))) (λii jj _=>(intOf jj).toNat-(intOf ii).toNat)
 case atStart=>exact⟨0,len,by omega,by omega,rfl,rfl,Below.refl _ _,(λk x hk=>by omega),(λk x hk hx=>by have:=(List.getElem?_eq_some_iff.1 hx).1;rw[← HN.out]at this;omega)⟩
 case round=>
  obtain⟨i,j,hij,hjn,rfl,rfl,HI⟩:=hrel
  have hBr:Below w.heap.size w wr:=HB0.out.trans (HI.out.1.mono HB0.out.size)
  have t0:wr.cell? ⟨w.heap.size,0,none⟩=some (.int .i64 t):=(HI.out.1.cell (p:=⟨w.heap.size,0,none⟩) (a4z HT.out.1)).trans HT.out.1
  have t1:wr.cell? ⟨w.heap.size,1,none⟩=some (.int .i64 n):=(HI.out.1.cell (p:=⟨w.heap.size,1,none⟩) (a4z HT.out.1)).trans HT.out.2
  have HBr:=a0z hBr
  clear hBr
  by_cases hlt:i<j
  ·have hltI:(i:Int)<j:=by omega
   obtain⟨h,hh⟩:∃h,(i+j)/2=h:=⟨_,rfl⟩
   have hhI:((i:Int)+(j:Int))/2=(h:Nat):=by omega
   have hhn:h<len:=by omega
   have hhnI:(h:Int)<len:=by omega
   obtain⟨x,hx⟩:∃x,L[h]? =some x:=⟨_,List.getElem?_eq_getElem (by rw[← HN.out];exact hhn)⟩
   obtain rfl:p=some ⟨g,0,none⟩:=HP.out (by rw[← HN.out];omega)
   obtain⟨c0,k0,k1⟩:=HC.out wr HBr.out h x hx
   have cF:∀W,Below wr.heap.size wr W→_:=λW hW=>iSz x (ky x).1 (ky x).2 t n W ((hW.cell (p:=⟨x,0,none⟩) (a4z k0)).trans k0) ((hW.cell (p:=⟨x,1,none⟩) (a4z k1)).trans k1)
   have HCC:=a0z (agz c0 (agz t0 t1))
   have HX:=a0z (agz hx hh)
   obtain⟨z,hz⟩:∃z,bdz (ky x).1 (ky x).2 t n=z:=⟨_,rfl⟩
   have HZ:Hid (decide (z<0)=lessB (ky x).1 (ky x).2 t n):=by show _=_;rw[← hz];exact cpz _ _ _ _
   rw[hz]at cF
   unfold pv at cF
   clear hx hh hz k0 k1 c0 t0 t1
   by_cases hz0:z<0
   ·have HL:Hid (avz (ky x) (t,n)):=by
     have:=HZ.out
     rw[decide_eq_true hz0]at this
     exact this.symm
    go_wp2_with fail
    refine fiz (by kernel_rfl) g x w.heap.size len cp h t n z _ rfl rfl rfl rfl rfl hhn HCC.out.1 HCC.out.2.1 HCC.out.2.2 cF ?_
    intro w1 hb1
    have HB:=a0z hb1
    clear hb1
    simp only[abz,sA,sB,sC]
    go_wp2_with fail
    go_roundw
    case rel=>exact⟨h+1,j,by omega,by omega,by go_num,rfl,HI.out.1.trans (HB.out.mono HI.out.1.size),(λk y hk hy=>by
      by_cases e:k=h
      ·subst e;rw[HX.out.1]at hy;cases hy;exact HL.out
      ·have h1:=List.pairwise_iff_getElem.1 HS.out k h (List.getElem?_eq_some_iff.1 hy).1 (List.getElem?_eq_some_iff.1 HX.out.1).1 (by omega)
       rw[(List.getElem?_eq_some_iff.1 hy).2,(List.getElem?_eq_some_iff.1 HX.out.1).2]at h1
       exact bez h1 HL.out),HI.out.2.2⟩
    case measure=>simp[intOf];omega
   ·have HL:Hid (¬avz (ky x) (t,n)):=by
     have:=HZ.out
     rw[decide_eq_false hz0]at this
     intro hp
     unfold avz at hp
     rw[hp]at this
     cases this
    go_wp2_with fail
    refine fiz (by kernel_rfl) g x w.heap.size len cp h t n z _ rfl rfl rfl rfl rfl hhn HCC.out.1 HCC.out.2.1 HCC.out.2.2 cF ?_
    intro w1 hb1
    have HB:=a0z hb1
    clear hb1
    simp only[abz,sA,sB,sC]
    go_wp2_with fail
    go_roundw
    case rel=>exact⟨i,h,by omega,by omega,rfl,rfl,HI.out.1.trans (HB.out.mono HI.out.1.size),HI.out.2.1,(λk y hk hy=>by
      by_cases e:k=h
      ·subst e;rw[HX.out.1]at hy;cases hy;exact HL.out
      ·have h1:=List.pairwise_iff_getElem.1 HS.out h k (List.getElem?_eq_some_iff.1 HX.out.1).1 (List.getElem?_eq_some_iff.1 hy).1 (by omega)
       rw[(List.getElem?_eq_some_iff.1 hy).2,(List.getElem?_eq_some_iff.1 HX.out.1).2]at h1
       exact λe2=>HL.out (bez h1 e2))⟩
    case measure=>simp[intOf];omega
  ·obtain rfl:i=j:=by omega
   have hge:¬(i:Int)<i:=by omega
   by_cases hin:i<len
   ·have hinI:(i:Int)<len:=by omega
    obtain⟨x,hx⟩:∃x,L[i]? =some x:=⟨_,List.getElem?_eq_getElem (by rw[← HN.out];exact hin)⟩
    obtain rfl:p=some ⟨g,0,none⟩:=HP.out (by rw[← HN.out];omega)
    obtain⟨c0,k0,k1⟩:=HC.out wr HBr.out i x hx
    have cF:∀W,Below wr.heap.size wr W→_:=λW hW=>iSz x (ky x).1 (ky x).2 t n W ((hW.cell (p:=⟨x,0,none⟩) (a4z k0)).trans k0) ((hW.cell (p:=⟨x,1,none⟩) (a4z k1)).trans k1)
    have HCC:=a0z (agz c0 (agz t0 t1))
    obtain⟨z,hz⟩:∃z,bdz (ky x).1 (ky x).2 t n=z:=⟨_,rfl⟩
    have HR:Hid (AtK L ky (t,n) i (z==0)):=by
     refine⟨by rw[← HN.out];omega,HI.out.2.1,HI.out.2.2, ?_⟩
     rw[beq_iff_eq,← hz]
     constructor
     ·intro e
      refine⟨x,hx, ?_⟩
      have h1:=cpz (ky x).1 (ky x).2 t n
      have:=fLz e
      exact Prod.ext this.1 this.2
     ·rintro⟨y,hy,e⟩
      rw[hx]at hy;cases hy
      rw[e]
      exact e3z (by simp[lessB]) (by simp[lessB])
    rw[hz]at cF
    unfold pv at cF
    clear hx hz k0 k1 c0 t0 t1
    go_wp2_with fail
    refine i6z (by kernel_rfl) g x w.heap.size len cp i t n z _ rfl rfl rfl rfl rfl rfl hin HCC.out.1 HCC.out.2.1 HCC.out.2.2 cF ?_
    intro w1 hb1
    have HB:=a0z hb1
    clear hb1
    simp only[abz,sA,sB,sC]
    obtain⟨e1,e2⟩:=HR.out.unique HA.out
    go_wp2_with fail
    go_ret2
    refine⟨?_,HBr.out.trans (HB.out.mono HBr.out.size)⟩
    rw[← e1,← e2]
    rfl
   ·obtain rfl:i=len:=by omega
    have HR:Hid (AtK L ky (t,n) i false):=by
     refine⟨by rw[← HN.out];omega,HI.out.2.1,HI.out.2.2, ?_⟩
     constructor
     ·intro h;cases h
     ·rintro⟨y,hy,e⟩
      have:=(List.getElem?_eq_some_iff.1 hy).1
      rw[← HN.out]at this;omega
    go_wp2_with fail
    refine gpz (by kernel_rfl) i _ rfl rfl rfl ?_
    intro w1 hb1
    have HB:=a0z hb1
    clear hb1
    simp only[abz,sA,sB,sC]
    obtain⟨e1,e2⟩:=HR.out.unique HA.out
    go_wp2_with fail
    go_ret2
    refine⟨?_,HBr.out.trans (HB.out.mono HBr.out.size)⟩
    rw[← e1,← e2]
    rfl
theorem nnz (hops:Tryz.f203.body.bind (alz 1)=some ops) (bb bx:Nat) (t n t' n':Int) (w9:World) (hsz:base.size=11) (b0:base.getD 0 undef=pO bb) (b3:base.getD 3 undef=pO bx) (h0:w9.cell? ⟨bb,2,none⟩=some (iV t)) (h1:w9.cell? ⟨bb,3,none⟩=some (iV n)) (x0:w9.cell? ⟨bx,0,none⟩=some (iV t')) (x1:w9.cell? ⟨bx,1,none⟩=some (iV n')) (cK:∀W,Below w9.heap.size w9 W→Calls Tryz.prog 102 #[idv t n,idv t' n'] W λe w'=>e=.returned (iV (bdz t n t' n'))∧Below W.heap.size W w') (hQ:∀W,Below w9.heap.size w9 W→Q .normal ⟨abz base [(some 5,pO bb),(some 6,pO bb),(some 7,.pointer (some ⟨bb,2,none⟩)),(some 8,.agg #[iV t,iV n]),(some 9,.agg #[iV t',iV n']),(some 10,iV (bdz t n t' n')),(some 4,iV (bdz t n t' n'))],dd⟩ W):
  (Code.region 1 ops true).wp Tryz.prog Q ⟨base,dd⟩ w9:=by
 obtain rfl:=Option.some.inj ((show Tryz.f203.body.bind (alz 1)=some _ from rfl).symm.trans hops);clear hops
 refine rU (by kernel_rfl) 11 hsz (by kernel_rfl) rfl hQ λLL hLe b W Ii Oo a hS hcl ho hb hd ev kp yl=> ?_
 have vv3:aaz LL 3=.agg #[iV t,iV n]:=vL hLe rfl
 have vv4:aaz LL 4=.agg #[iV t',iV n']:=vL hLe rfl
 have vv5:aaz LL 5=iV (bdz t n t' n'):=vL hLe rfl
 have Vv:=aV hLe;have Ee:=aE hLe rfl ev
 have e0:=(kp 0 (by kernel_rfl)).trans b0
 have e3:=(kp 3 (by kernel_rfl)).trans b3
 have d2:=(hS.cell (p:=⟨bb,2,none⟩) (a4z h0)).trans h0
 have d3:=(hS.cell (p:=⟨bb,3,none⟩) (a4z h1)).trans h1
 have d0:=(hS.cell (p:=⟨bx,0,none⟩) (a4z x0)).trans x0
 have d1:=(hS.cell (p:=⟨bx,1,none⟩) (a4z x1)).trans x1
 simp only[AV,AE,Nat.zero_add,Nat.reduceAdd,and_true]at Vv Ee
 match Ii with
 |0|1|2|3|4|6=>simp only[qq]at ho;subst ho;have hd:=aD hd;simp only[AD,and_true]at hd;simp only[Vv];exact dV (by simp[execOp,go_sem,Ee,d0,d1,d2,d3,e0,e3,hd]) hS
 |5=>
  simp only[qq]at ho;subst ho;have e8:=eD ev hd 3 8 vv3;have e9:=eD ev hd 4 9 vv4;rw[vv5]
  refine ayz rfl nofun (f:=102) (args:= #[.agg #[iV t,iV n],.agg #[iV t',iV n']]) ?_ ?_
  ·simp[go_sem,e8,e9]
  ·exact(cK W hS).mono (λe w' h=>⟨h.1,hS.trans (h.2.mono hS.size)⟩)
 |k+7=>simp at ho
theorem eOz (hops:Tryz.f202.body.bind (alz 5)=some ops) (g x bx len cp k:Nat) (t n z:Int) (w9:World) (hsz:base.size=49) (b0:base.getD 0 undef=.slice (some ⟨g,0,none⟩) len cp) (b2:base.getD 2 undef=.func (.func 203) #[] #[]) (b4:base.getD 4 undef=pO bx) (b11:base.getD 11 undef=iV (k:Nat)) (hk:k<len) (c0:w9.cell? ⟨g,k,none⟩=some (pO x)) (x0:w9.cell? ⟨bx,0,none⟩=some (iV t)) (x1:w9.cell? ⟨bx,1,none⟩=some (iV n)) (cK:∀W,Below w9.heap.size w9 W→Calls Tryz.prog 203 #[pO x,idv t n] W λe w'=>e=.returned (iV z)∧Below W.heap.size W w') (hQ:∀W,Below w9.heap.size w9 W→Q .normal ⟨abz base [(some 24,.func (.func 203) #[] #[]),(some 25,.slice (some ⟨g,0,none⟩) len cp),(some 26,iV (k:Nat)),(some 27,.pointer (some ⟨g,k,none⟩)),(some 28,pO x),(some 29,.agg #[iV t,iV n]),(some 30,iV z),(some 31,.bool (decide (z<0)))],dd⟩ W):
  (Code.region 5 ops true).wp Tryz.prog Q ⟨base,dd⟩ w9:=by
 obtain rfl:=Option.some.inj ((show Tryz.f202.body.bind (alz 5)=some _ from rfl).symm.trans hops);clear hops
 refine rU (by kernel_rfl) 49 hsz (by kernel_rfl) rfl hQ λLL hLe b W Ii Oo a hS hcl ho hb hd ev kp yl=> ?_
 have vv0:aaz LL 0=.func (.func 203) #[] #[]:=vL hLe rfl
 have vv4:aaz LL 4=pO x:=vL hLe rfl
 have vv5:aaz LL 5=.agg #[iV t,iV n]:=vL hLe rfl
 have vv6:aaz LL 6=iV z:=vL hLe rfl
 have Vv:=aV hLe;have Ee:=aE hLe rfl ev
 have e2:=(kp 2 (by kernel_rfl)).trans b2
 have e0:=(kp 0 (by kernel_rfl)).trans b0
 have e11:=(kp 11 (by kernel_rfl)).trans b11
 have e4:=(kp 4 (by kernel_rfl)).trans b4
 have d9_0:=(hS.cell (p:=⟨g,k,none⟩) (a4z c0)).trans c0
 have d0:=(hS.cell (p:=⟨bx,0,none⟩) (a4z x0)).trans x0
 have d1:=(hS.cell (p:=⟨bx,1,none⟩) (a4z x1)).trans x1
 simp only[AV,AE,Nat.zero_add,Nat.reduceAdd,and_true]at Vv Ee
 match Ii with
 |0|1|2|3|4|5|7=>simp only[qq]at ho;subst ho;have hd:=aD hd;simp only[AD,and_true]at hd;simp only[Vv];exact dV (by simp[execOp,go_sem,Ee,d0,d1,d9_0,e0,e11,e2,e4,hd,hk]) hS
 |6=>
  simp only[qq]at ho;subst ho;have e24:=eD ev hd 0 24 vv0;have e28:=eD ev hd 4 28 vv4;have e29:=eD ev hd 5 29 vv5;rw[vv6]
  refine ayz rfl nofun (f:=203) (args:= #[pO x,.agg #[iV t,iV n]]) ?_ ?_
  ·simp[go_sem,e24,e28,e29]
  ·exact(cK W hS).mono (λe w' h=>⟨h.1,hS.trans (h.2.mono hS.size)⟩)
 |k+8=>simp at ho
theorem iFz (hops:Tryz.f202.body.bind (alz 8)=some ops) (g x bx len cp k:Nat) (t n z:Int) (w9:World) (hsz:base.size=49) (b0:base.getD 0 undef=.slice (some ⟨g,0,none⟩) len cp) (b2:base.getD 2 undef=.func (.func 203) #[] #[]) (b4:base.getD 4 undef=pO bx) (b8:base.getD 8 undef=iV (len:Nat)) (b9:base.getD 9 undef=iV (k:Nat)) (hk:k<len) (c0:w9.cell? ⟨g,k,none⟩=some (pO x)) (x0:w9.cell? ⟨bx,0,none⟩=some (iV t)) (x1:w9.cell? ⟨bx,1,none⟩=some (iV n)) (cK:∀W,Below w9.heap.size w9 W→Calls Tryz.prog 203 #[pO x,idv t n] W λe w'=>e=.returned (iV z)∧Below W.heap.size W w') (hQ:∀W,Below w9.heap.size w9 W→Q .normal ⟨abz base [(some 35,iV (k:Nat)),(some 36,iV (k:Nat)),(some 37,iV (len:Nat)),(some 38,.bool true),(some 39,.bool true),(some 40,.func (.func 203) #[] #[]),(some 41,.slice (some ⟨g,0,none⟩) len cp),(some 42,iV (k:Nat)),(some 43,.pointer (some ⟨g,k,none⟩)),(some 44,pO x),(some 45,.agg #[iV t,iV n]),(some 46,iV z),(some 47,.bool (z==0)),(some 48,.bool (z==0)),(some 6,iV (k:Nat)),(some 7,.bool (z==0))],dd⟩ W):
  (Code.region 8 ops true).wp Tryz.prog Q ⟨base,dd⟩ w9:=by
 obtain rfl:=Option.some.inj ((show Tryz.f202.body.bind (alz 8)=some _ from rfl).symm.trans hops);clear hops
 refine rU (by kernel_rfl) 49 hsz (by kernel_rfl) rfl hQ λLL hLe b W Ii Oo a hS hcl ho hb hd ev kp yl=> ?_
 have vv4:aaz LL 4=.bool true:=vL hLe rfl
 have vv5:aaz LL 5=.func (.func 203) #[] #[]:=vL hLe rfl
 have vv9:aaz LL 9=pO x:=vL hLe rfl
 have vv10:aaz LL 10=.agg #[iV t,iV n]:=vL hLe rfl
 have vv11:aaz LL 11=iV z:=vL hLe rfl
 have Vv:=aV hLe;have Ee:=aE hLe rfl ev
 have e9:=(kp 9 (by kernel_rfl)).trans b9
 have e8:=(kp 8 (by kernel_rfl)).trans b8
 have e2:=(kp 2 (by kernel_rfl)).trans b2
 have e0:=(kp 0 (by kernel_rfl)).trans b0
 have e4:=(kp 4 (by kernel_rfl)).trans b4
 have d9_0:=(hS.cell (p:=⟨g,k,none⟩) (a4z c0)).trans c0
 have d0:=(hS.cell (p:=⟨bx,0,none⟩) (a4z x0)).trans x0
 have d1:=(hS.cell (p:=⟨bx,1,none⟩) (a4z x1)).trans x1
 simp only[AV,AE,Nat.zero_add,Nat.reduceAdd,and_true]at Vv Ee
 match Ii with
 |0|1|2|3|4|13|14|15=>simp only[qq]at ho;subst ho;have hd:=aD hd;simp only[AD,and_true]at hd;simp only[Vv];exact dV (by simp[execOp,go_sem,Ee,e8,e9,hd,hk]) hS
 |5|6|7|8|9|10|12=>simp only[qq]at ho;subst ho;have hy:=yl 4 39 true rfl (hG hd 4) (by simp only[Vv]);have hd:=aD hd;simp only[AD,and_true]at hd;simp only[Vv];exact dG hy (by simp[execOp,go_sem,Ee,d0,d1,d9_0,e0,e2,e4,e9,hd,hk]) hS
 |11=>
  simp only[qq]at ho;subst ho;have e40:=eD ev hd 5 40 vv5;have e44:=eD ev hd 9 44 vv9;have e45:=eD ev hd 10 45 vv10;rw[vv11]
  refine apz rfl (yl 4 39 true rfl (hG hd 4) vv4) nofun (f:=203) (args:= #[pO x,.agg #[iV t,iV n]]) ?_ ?_
  ·simp[go_sem,e40,e44,e45]
  ·exact(cK W hS).mono (λe w' h=>⟨h.1,hS.trans (h.2.mono hS.size)⟩)
 |k+16=>simp at ho
theorem g8z (hops:Tryz.f202.body.bind (alz 8)=some ops) (len:Nat) (w9:World) (hsz:base.size=49) (b8:base.getD 8 undef=iV (len:Nat)) (b9:base.getD 9 undef=iV (len:Nat)) (hQ:∀W,Below w9.heap.size w9 W→Q .normal ⟨abz base [(some 35,iV (len:Nat)),(some 36,iV (len:Nat)),(some 37,iV (len:Nat)),(some 38,.bool false),(some 39,.bool false),(some 40,undef),(some 41,undef),(some 42,undef),(some 43,undef),(some 44,undef),(some 45,undef),(some 46,undef),(some 47,undef),(some 48,.bool false),(some 6,iV (len:Nat)),(some 7,.bool false)],dd⟩ W):
  (Code.region 8 ops true).wp Tryz.prog Q ⟨base,dd⟩ w9:=by
 obtain rfl:=Option.some.inj ((show Tryz.f202.body.bind (alz 8)=some _ from rfl).symm.trans hops);clear hops
 refine rU (by kernel_rfl) 49 hsz (by kernel_rfl) rfl hQ λLL hLe b W Ii Oo a hS hcl ho hb hd ev kp yl=> ?_
 have vv4:aaz LL 4=.bool false:=vL hLe rfl
 have Vv:=aV hLe;have Ee:=aE hLe rfl ev
 have e9:=(kp 9 (by kernel_rfl)).trans b9
 have e8:=(kp 8 (by kernel_rfl)).trans b8
 simp only[AV,AE,Nat.zero_add,Nat.reduceAdd,and_true]at Vv Ee
 match Ii with
 |0|1|2|3|4|13|14|15=>simp only[qq]at ho;subst ho;have hd:=aD hd;simp only[AD,and_true]at hd;simp only[Vv];exact dV (by simp[execOp,go_sem,Ee,e8,e9,hd]) hS
 |5|6|7|8|9|10|11|12=>simp only[qq]at ho;subst ho;exact a1z rfl (yl 4 39 false rfl (hG hd 4) vv4) (by decide) (vL hLe rfl) (hS)
 |k+16=>simp at ho
theorem iWz (b:Nat) (t n t' n':Int) (w:World) (h0:w.cell? ⟨b,2,none⟩=some (.int .i64 t)) (h1:w.cell? ⟨b,3,none⟩=some (.int .i64 n)):
  Calls Tryz.prog 203 #[pv b,idv t' n'] w λe w'=>e=.returned (.int .i64 (bdz t n t' n'))∧Below w.heap.size w w':=by
 have hb1:Below w.heap.size w (w.alloc (.cells #[.int .i64 t',.int .i64 n'] 28)):=(Below.refl _ w).alloc (Nat.le_refl _) _
 have c0:(w.alloc (.cells #[.int .i64 t',.int .i64 n'] 28)).cell? ⟨b,2,none⟩=some (.int .i64 t):=(hb1.cell (p:=⟨b,2,none⟩) (a4z h0)).trans h0
 have c1:(w.alloc (.cells #[.int .i64 t',.int .i64 n'] 28)).cell? ⟨b,3,none⟩=some (.int .i64 n):=(hb1.cell (p:=⟨b,3,none⟩) (a4z h1)).trans h1
 have hlt:b<w.heap.size:=a4z h0
 have c:=λW=>eAz t n t' n' W
 have HB:=a0z hb1
 clear hb1
 unfold pv
 have x0:(w.alloc (.cells #[.int .i64 t',.int .i64 n'] 28)).cell? ⟨w.heap.size,0,none⟩=some (.int .i64 t'):=cellOf (heap_alloc_new w _) 0
 have x1:(w.alloc (.cells #[.int .i64 t',.int .i64 n'] 28)).cell? ⟨w.heap.size,1,none⟩=some (.int .i64 n'):=cellOf (heap_alloc_new w _) 1
 have HC:=a0z (agz c0 (agz c1 (agz x0 x1)))
 clear c0 c1 x0 x1 h0 h1
 go_enter Tryz.func203,Tryz.ntmps203
 go_wp2_with fail
 refine nnz (by kernel_rfl) b w.heap.size t n t' n' _ rfl rfl rfl HC.out.1 HC.out.2.1 HC.out.2.2.1 HC.out.2.2.2 (λW _=>c W) ?_
 intro W hS
 have HS:=a0z hS
 clear hS
 simp only[abz,sA,sB,sC]
 go_wp2_with fail
 go_ret
 exact⟨rfl,HB.out.trans (HS.out.mono HB.out.size)⟩
theorem erz (g cp:Nat) (L:List Nat) (ky:Nat→PI) (t n:Int) (i0:Nat) (r0:Bool) (hat:AtK L ky (t,n) i0 r0) (w:World) (p:Option Addr) (hp:0<L.length→p=some ⟨g,0,none⟩) (hs:L.Pairwise λa b=>avz (ky a) (ky b)) (hl:L.length≤1001) (hlc:L.length≤cp) (hc:∀(i x:Nat),L[i]? =some x→w.cell? ⟨g,i,none⟩=some (pv x)) (hk:∀x∈L,w.cell? ⟨x,2,none⟩=some (.int .i64 (ky x).1)∧w.cell? ⟨x,3,none⟩=some (.int .i64 (ky x).2)):
  Calls Tryz.prog 202 #[.slice p L.length cp,idv t n,.func (.func 203) #[] #[]] w λe w'=>e=.returned (.tuple #[.int .i64 (i0:Nat),.bool r0])∧Below w.heap.size w w':=by
 obtain⟨len,hn⟩:∃len,len=L.length:=⟨_,rfl⟩
 have HN:=a0z hn
 have HC:Hid (∀(W:World),Below w.heap.size w W→∀(i x:Nat),L[i]? =some x→W.cell? ⟨g,i,none⟩=some (.pointer (some ⟨x,0,none⟩))∧W.cell? ⟨x,2,none⟩=some (.int .i64 (ky x).1)∧W.cell? ⟨x,3,none⟩=some (.int .i64 (ky x).2)):=λW hb i x hx=>by
  have h0:=hc i x hx
  obtain⟨h1,h2⟩:=hk x (List.mem_of_getElem? hx)
  exact⟨(hb.cell (p:=⟨g,i,none⟩) (a4z h0)).trans h0,(hb.cell (p:=⟨x,2,none⟩) (a4z h1)).trans h1,(hb.cell (p:=⟨x,3,none⟩) (a4z h2)).trans h2⟩
 have HP:=a0z hp
 have HA:=a0z hat
 clear hat
 have HS:=a0z hs
 rw[← hn]at hl hlc
 rw[← hn]
 clear hn hc hp hs hk
 obtain⟨wb,hwb⟩:∃wb,wb=w.alloc (.cells #[.int .i64 t,.int .i64 n] 28):=⟨_,rfl⟩
 have HB0:Hid (Below w.heap.size w wb):=by rw[hwb];exact(Below.refl _ w).alloc (Nat.le_refl _) _
 have HT:Hid (wb.cell? ⟨w.heap.size,0,none⟩=some (.int .i64 t)∧wb.cell? ⟨w.heap.size,1,none⟩=some (.int .i64 n)):=by
  rw[hwb];exact⟨cellOf (heap_alloc_new w _) 0,cellOf (heap_alloc_new w _) 1⟩
 go_enter Tryz.func202,Tryz.ntmps202
 go_wp2_with fail
 rw[← hwb]
 clear hwb
 go_loopw [9,10] (λii jj wr=>∃i j:Nat,i≤j∧j≤len∧ii=.int .i64 i∧jj=.int .i64 j∧Hid (Below wb.heap.size wb wr∧(∀k x,k<i→L[k]? =some x→avz (ky x) (t,n))∧(∀k x,j≤k→L[k]? =some x→¬avz (ky x) (t,n)))) (λii jj _=>(intOf jj).toNat-(intOf ii).toNat)
 case atStart=>exact⟨0,len,by omega,by omega,rfl,rfl,Below.refl _ _,(λk x hk=>by omega),(λk x hk hx=>by have:=(List.getElem?_eq_some_iff.1 hx).1;rw[← HN.out]at this;omega)⟩
 case round=>
  obtain⟨i,j,hij,hjn,rfl,rfl,HI⟩:=hrel
  have hBr:Below w.heap.size w wr:=HB0.out.trans (HI.out.1.mono HB0.out.size)
  have t0:wr.cell? ⟨w.heap.size,0,none⟩=some (.int .i64 t):=(HI.out.1.cell (p:=⟨w.heap.size,0,none⟩) (a4z HT.out.1)).trans HT.out.1
  have t1:wr.cell? ⟨w.heap.size,1,none⟩=some (.int .i64 n):=(HI.out.1.cell (p:=⟨w.heap.size,1,none⟩) (a4z HT.out.1)).trans HT.out.2
  have HBr:=a0z hBr
  clear hBr
  by_cases hlt:i<j
  ·have hltI:(i:Int)<j:=by omega
   obtain⟨h,hh⟩:∃h,(i+j)/2=h:=⟨_,rfl⟩
   have hhI:((i:Int)+(j:Int))/2=(h:Nat):=by omega
   have hhn:h<len:=by omega
   have hhnI:(h:Int)<len:=by omega
   obtain⟨x,hx⟩:∃x,L[h]? =some x:=⟨_,List.getElem?_eq_getElem (by rw[← HN.out];exact hhn)⟩
   obtain rfl:p=some ⟨g,0,none⟩:=HP.out (by rw[← HN.out];omega)
   obtain⟨c0,k0,k1⟩:=HC.out wr HBr.out h x hx
   have cF:∀W,Below wr.heap.size wr W→_:=λW hW=>iWz x (ky x).1 (ky x).2 t n W ((hW.cell (p:=⟨x,2,none⟩) (a4z k0)).trans k0) ((hW.cell (p:=⟨x,3,none⟩) (a4z k1)).trans k1)
   have HCC:=a0z (agz c0 (agz t0 t1))
   have HX:=a0z (agz hx hh)
   obtain⟨z,hz⟩:∃z,bdz (ky x).1 (ky x).2 t n=z:=⟨_,rfl⟩
   have HZ:Hid (decide (z<0)=lessB (ky x).1 (ky x).2 t n):=by show _=_;rw[← hz];exact cpz _ _ _ _
   rw[hz]at cF
   unfold pv at cF
   clear hx hh hz k0 k1 c0 t0 t1
   by_cases hz0:z<0
   ·have HL:Hid (avz (ky x) (t,n)):=by
     have:=HZ.out
     rw[decide_eq_true hz0]at this
     exact this.symm
    go_wp2_with fail
    refine eOz (by kernel_rfl) g x w.heap.size len cp h t n z _ rfl rfl rfl rfl rfl hhn HCC.out.1 HCC.out.2.1 HCC.out.2.2 cF ?_
    intro w1 hb1
    have HB:=a0z hb1
    clear hb1
    simp only[abz,sA,sB,sC]
    go_wp2_with fail
    go_roundw
    case rel=>exact⟨h+1,j,by omega,by omega,by go_num,rfl,HI.out.1.trans (HB.out.mono HI.out.1.size),(λk y hk hy=>by
      by_cases e:k=h
      ·subst e;rw[HX.out.1]at hy;cases hy;exact HL.out
      ·have h1:=List.pairwise_iff_getElem.1 HS.out k h (List.getElem?_eq_some_iff.1 hy).1 (List.getElem?_eq_some_iff.1 HX.out.1).1 (by omega)
       rw[(List.getElem?_eq_some_iff.1 hy).2,(List.getElem?_eq_some_iff.1 HX.out.1).2]at h1
       exact bez h1 HL.out),HI.out.2.2⟩
    case measure=>simp[intOf];omega
   ·have HL:Hid (¬avz (ky x) (t,n)):=by
     have:=HZ.out
     rw[decide_eq_false hz0]at this
     intro hp
     unfold avz at hp
     rw[hp]at this
     cases this
    go_wp2_with fail
    refine eOz (by kernel_rfl) g x w.heap.size len cp h t n z _ rfl rfl rfl rfl rfl hhn HCC.out.1 HCC.out.2.1 HCC.out.2.2 cF ?_
    intro w1 hb1
    have HB:=a0z hb1
    clear hb1
    simp only[abz,sA,sB,sC]
    go_wp2_with fail
    go_roundw
    case rel=>exact⟨i,h,by omega,by omega,rfl,rfl,HI.out.1.trans (HB.out.mono HI.out.1.size),HI.out.2.1,(λk y hk hy=>by
      by_cases e:k=h
      ·subst e;rw[HX.out.1]at hy;cases hy;exact HL.out
      ·have h1:=List.pairwise_iff_getElem.1 HS.out h k (List.getElem?_eq_some_iff.1 HX.out.1).1 (List.getElem?_eq_some_iff.1 hy).1 (by omega)
       rw[(List.getElem?_eq_some_iff.1 hy).2,(List.getElem?_eq_some_iff.1 HX.out.1).2]at h1
       exact λe2=>HL.out (bez h1 e2))⟩
    case measure=>simp[intOf];omega
  ·obtain rfl:i=j:=by omega
   have hge:¬(i:Int)<i:=by omega
   by_cases hin:i<len
   ·have hinI:(i:Int)<len:=by omega
    obtain⟨x,hx⟩:∃x,L[i]? =some x:=⟨_,List.getElem?_eq_getElem (by rw[← HN.out];exact hin)⟩
    obtain rfl:p=some ⟨g,0,none⟩:=HP.out (by rw[← HN.out];omega)
    obtain⟨c0,k0,k1⟩:=HC.out wr HBr.out i x hx
    have cF:∀W,Below wr.heap.size wr W→_:=λW hW=>iWz x (ky x).1 (ky x).2 t n W ((hW.cell (p:=⟨x,2,none⟩) (a4z k0)).trans k0) ((hW.cell (p:=⟨x,3,none⟩) (a4z k1)).trans k1)
    have HCC:=a0z (agz c0 (agz t0 t1))
    obtain⟨z,hz⟩:∃z,bdz (ky x).1 (ky x).2 t n=z:=⟨_,rfl⟩
    have HR:Hid (AtK L ky (t,n) i (z==0)):=by
     refine⟨by rw[← HN.out];omega,HI.out.2.1,HI.out.2.2, ?_⟩
     rw[beq_iff_eq,← hz]
     constructor
     ·intro e
      refine⟨x,hx, ?_⟩
      have h1:=cpz (ky x).1 (ky x).2 t n
      have:=fLz e
      exact Prod.ext this.1 this.2
     ·rintro⟨y,hy,e⟩
      rw[hx]at hy;cases hy
      rw[e]
      exact e3z (by simp[lessB]) (by simp[lessB])
    rw[hz]at cF
    unfold pv at cF
    clear hx hz k0 k1 c0 t0 t1
    go_wp2_with fail
    refine iFz (by kernel_rfl) g x w.heap.size len cp i t n z _ rfl rfl rfl rfl rfl rfl hin HCC.out.1 HCC.out.2.1 HCC.out.2.2 cF ?_
    intro w1 hb1
    have HB:=a0z hb1
    clear hb1
    simp only[abz,sA,sB,sC]
    obtain⟨e1,e2⟩:=HR.out.unique HA.out
    go_wp2_with fail
    go_ret2
    refine⟨?_,HBr.out.trans (HB.out.mono HBr.out.size)⟩
    rw[← e1,← e2]
    rfl
   ·obtain rfl:i=len:=by omega
    have HR:Hid (AtK L ky (t,n) i false):=by
     refine⟨by rw[← HN.out];omega,HI.out.2.1,HI.out.2.2, ?_⟩
     constructor
     ·intro h;cases h
     ·rintro⟨y,hy,e⟩
      have:=(List.getElem?_eq_some_iff.1 hy).1
      rw[← HN.out]at this;omega
    go_wp2_with fail
    refine g8z (by kernel_rfl) i _ rfl rfl rfl ?_
    intro w1 hb1
    have HB:=a0z hb1
    clear hb1
    simp only[abz,sA,sB,sC]
    obtain⟨e1,e2⟩:=HR.out.unique HA.out
    go_wp2_with fail
    go_ret2
    refine⟨?_,HBr.out.trans (HB.out.mono HBr.out.size)⟩
    rw[← e1,← e2]
    rfl
end Go.Proofs.YthhakekbffembaaGreatDoor.Ck.Y

namespace Go.Proofs.YthhakekbffembaaGreatDoor.Ck.Y
open Go.RowKit Go.Maps Go.Lib
variable {E:List (PI×Nat)} {b mb:Nat} {w:World}
theorem diz (s:ByteArray) (w:World) (hlim:s.size≤1000000):Calls Tryz.prog 149 #[.string s] w λe w'=>e=.returned (.string s)∧Below w.heap.size w w':=by
 by_cases h0:s.size=0
 ·have hs:s=⟨#[]⟩:=by
   apply ByteArray.ext
   exact Array.eq_empty_of_size_eq_zero h0
  subst hs
  go_enter Tryz.func149,Tryz.ntmps149
  go_wp2
  go_ret
  exact⟨rfl,Below.refl _ _⟩
 ·have e5:(Tryz.prog.info? 5).map (λi=>(i.zero,i.size,i.bytes))=some (some (.int .u8 0),1,1):=by kernel_rfl
  obtain⟨i0,hi,he⟩:=Option.map_eq_some_iff.1 e5
  injection he with hz0 he
  injection he with hz1 hz2
  have hinfo:(Tryz.prog.info? 5).map (·.size)=some 1:=by rw[hi];simp[hz1]
  have hco:Tryz.prog.cellsOf 5=1:=by simp[Program.cellsOf,hi,hz1]
  obtain⟨M,hM⟩:∃M,M=madeCells (Value.int .u8 0).cells (((s.size:Nat):Int).toNat*i0.size):=⟨_,rfl⟩
  have hMs:M.size=s.size:=by rw[hM,size_madeCells,hz1];simp
  have hmk:∀W:World,(Instr.makeSlice 29 (.int .i64 (s.size:Int)) (.int .i64 (s.size:Int))).run Tryz.prog W=.ok (.slice (some ⟨W.heap.size,0,none⟩) s.size s.size) (W.alloc (.cells M 5)):=λW=>by
   have h:=run_make (P:=Tryz.prog) W 29 5 i0 (.int .u8 0) Tryz.underlying29 hi hz0 .i64 .i64 (s.size:Int) (s.size:Int) (by omega) (by omega) (by rw[hz2];omega) (by omega)
   rw[← hM]at h
   simpa using h
  clear hM
  have hcp:=Lib.run_copy_row_string (P:=Tryz.prog) (w.alloc (.cells M 5)) 29 9 3 5 w.heap.size 0 s.size s.size s M 5 Tryz.underlying29 hinfo (heap_alloc_new w _) (Nat.le_refl _) (by omega)
  obtain⟨Y,hY⟩:∃Y,Y=(M.toList.take 0++Lib.byteCells s.data.toList++M.toList.drop (0+s.size)).toArray:=⟨_,rfl⟩
  rw[← hY]at hcp
  have hYl:Y.toList=Lib.byteCells s.data.toList:=by
   rw[hY,List.toList_toArray,List.take_zero,List.nil_append,List.drop_of_length_le (by rw[Array.length_toList];omega),List.append_nil]
  have hYs:Y.size=s.size:=by rw[← Array.length_toList,hYl,Lib.byteCells_length,← Lib.size_eq]
  have hgY:((w.alloc (.cells M 5)).setRow w.heap.size Y).heap[w.heap.size]? =some (.cells Y 5 (0,0)):=setRow_heap _ _ M _ 5 (0,0) (heap_alloc_new w _)
  have hne:s.data.toList≠[]:=λe=>h0 (by rw[Lib.size_eq,e];rfl)
  have hUS:=Lib.run_unsafeString_row (P:=Tryz.prog) ((w.alloc (.cells M 5)).setRow w.heap.size Y) 221 3 9 5 Tryz.underlying221 hco w.heap.size Y.size (by unfold World.shape?;rw[hgY]) s.data.toList hne (by rw[← Lib.size_eq];omega) (by rw[← Lib.size_eq];omega)
   (λj x hx=>Lib.cells_of_row hgY Y.size j _ (by rw[List.take_of_length_le (by rw[Array.length_toList];exact Nat.le_refl _),hYl];simp[Lib.byteCells,hx]))
  rw[← Lib.size_eq]at hUS
  clear hY
  go_enter Tryz.func149,Tryz.ntmps149
  go_wp2
  go_ret
  have hb1:Below w.heap.size w (w.alloc (.cells M 5)):=(Below.refl _ w).alloc (Nat.le_refl _) _
  have hb2:Below w.heap.size (w.alloc (.cells M 5)) ((w.alloc (.cells M 5)).setRow w.heap.size Y):=⟨rfl,rfl,rfl,by simp,λk hk=>setRow_other _ _ _ _ (by omega)⟩
  exact⟨rfl,Lib.below_freeze (hb1.trans hb2) (p:=⟨w.heap.size,0,none⟩) (Nat.le_refl _) _⟩
theorem bsz (s:ByteArray) (w:World) (hlim:s.size≤1000000):Calls Tryz.prog 106 #[.string s] w λe w'=>e=.returned (.string s)∧Below w.heap.size w w':=by
 have c:=diz s w hlim
 go_enter Tryz.func106,Tryz.ntmps106
 go_wp2_with (go_at_call 149;refine c.mono ?_;rintro e w1 ⟨rfl,hb⟩;have HB:=a0z hb;clear hb)
 go_ret
 exact⟨rfl,HB.out⟩
theorem hXz (d:Nat) (a b:Int) (w:World):(Op.equalIn (d+1) 2 (.int .i64 a) (.int .i64 b)).run Tryz.prog w=.ok (a==b) w:=by simp[Op.equalIn,go_sem]
theorem hMz (d:Nat) (a b:Int) (w:World):(Op.equalIn (d+1) 3 (.int .i64 a) (.int .i64 b)).run Tryz.prog w=.ok (a==b) w:=by simp[Op.equalIn,go_sem]
theorem g9z (d:Nat) (a1 a2 b1 b2:Int) (w:World):(Op.equalIn (d+2) 28 (idv a1 a2) (idv b1 b2)).run Tryz.prog w=.ok (decide (a1=b1)&&decide (a2=b2)) w:=by
 have h1:Tryz.prog.stoodInHeld 28=false:=by kernel_rfl
 unfold Op.equalIn
 simp only[Sem.run_bind,run_underlying Tryz.underlying28,Result.andThen_ok]
 by_cases e1:a1=b1<;>by_cases e2:a2=b2<;>simp[go_sem,h1,e1,e2,hXz,hMz]
theorem cOz (a b:PI) (w:World):(Op.equal 28 (idv a.1 a.2) (idv b.1 b.2)).run Tryz.prog w=.ok (decide (a.1=b.1)&&decide (a.2=b.2)) w:=g9z 9998 a.1 a.2 b.1 b.2 w
theorem m4z (d:Nat) (e:Bool) (a:Int) (w:World):(Instr.checkKey e (d+1) 2 (.int .i64 a)).run Tryz.prog w=.ok () w:=by simp[Instr.checkKey,go_sem]
theorem ljz (d:Nat) (e:Bool) (a:Int) (w:World):(Instr.checkKey e (d+1) 3 (.int .i64 a)).run Tryz.prog w=.ok () w:=by simp[Instr.checkKey,go_sem]
theorem lpz (d:Nat) (e:Bool) (a b:Int) (w:World):(Instr.checkKey e (d+2) 28 (idv a b)).run Tryz.prog w=.ok () w:=by
 unfold Instr.checkKey
 simp only[Sem.run_bind,run_underlying Tryz.underlying28,Result.andThen_ok]
 simp[go_sem,m4z,ljz]
theorem bgz (e:Bool) (a:PI) (w:World):(Instr.checkKey e 10000 28 (idv a.1 a.2)).run Tryz.prog w=.ok () w:=lpz 9998 e a.1 a.2 w
def atM (E:List (PI×Nat)) (q:PI):Option Nat:=(E.find? λx=>decide (x.1=q)).map (·.2)
def enM (x:PI×Nat):Value×Value:=(idv x.1.1 x.1.2,pv x.2)
def MapAt (w:World) (mb:Nat) (E:List (PI×Nat)):Prop:=∃es clock,w.heap[mb]? =some (.map es clock)∧es.toList.map (λe=>(e.key,e.val))=E.map enM
theorem cXz (q:PI) (w:World):∀(l:List MapEntry) (E:List (PI×Nat)) (i:Nat),l.map (λe=>(e.key,e.val))=E.map enM→(Instr.findAsking 28 (idv q.1 q.2) l i).run Tryz.prog w=.ok ((E.findIdx? λx=>decide (x.1=q)).bind λk=>(E[k]?).map λx=>(i+k,pv x.2)) w
 |[],[],i,_=>by simp[Instr.findAsking]
 |[],_::_,i,h=>by simp at h
 |_::_,[],i,h=>by simp at h
 |e::l,x::E,i,h=>by
  simp only[List.map_cons,List.cons.injEq]at h
  obtain⟨h1,h2⟩:=h
  obtain⟨hk,hv⟩:=Prod.mk.inj h1
  unfold Instr.findAsking
  rw[hk]
  simp only[Sem.run_bind,cOz,Result.andThen_ok]
  have ih:=cXz q w l E (i+1) h2
  by_cases e1:x.1=q
  ·have e2:(decide (q.1=x.1.1)&&decide (q.2=x.1.2))=true:=by rw[e1];simp
   rw[e2]
   simp[List.findIdx?_cons,e1,hv]
  ·have e2:(decide (q.1=x.1.1)&&decide (q.2=x.1.2))=false:=by
    by_cases f1:q.1=x.1.1
    ·have f2:¬q.2=x.1.2:=λf2=>e1 (Prod.ext f1.symm f2.symm)
     simp[f2]
    ·simp[f1]
   rw[e2]
   simp only[Bool.false_eq_true,if_false,ih,List.findIdx?_cons,e1,decide_false]
   cases E.findIdx? λx=>decide (x.1=q)with
   |none=>simp
   |some k=>simp only[Option.bind_some,Option.map_some,List.getElem?_cons_succ,show i+1+k=i+(k+1) by omega]
def fdM (E:List (PI×Nat)) (q:PI):Option (Nat×Value):=(E.findIdx? λx=>decide (x.1=q)).bind λk=>(E[k]?).map λx=>(k,pv x.2)
theorem bkz (q:PI) (w:World) (l:List MapEntry) (E:List (PI×Nat)) (h:l.map (λe=>(e.key,e.val))=E.map enM):(Instr.findKey 28 (idv q.1 q.2) l).run Tryz.prog w=.ok (fdM E q) w:=by
 have hA:=cXz q w l E 0 h
 simp only[Nat.zero_add]at hA
 unfold Instr.findKey
 simp only[Sem.run_bind,run_underlying Tryz.underlying28,Result.andThen_ok]
 cases l with
 |nil=>
  have:E=[]:=by cases E with|nil=>rfl|cons x E=>simp at h
  subst this
  simp[Instr.findNow,fdM]
 |cons e l=>
  simp only[Instr.findNow,Instr.sameNow]
  exact hA
theorem cPz {q:PI} (h:atM E q=none):fdM E q=none:=by
 unfold atM at h
 unfold fdM
 rw[Option.map_eq_none_iff,List.find?_eq_none]at h
 rw[List.findIdx?_eq_none_iff.2 (λx hx=>by simpa using h x hx)]
 rfl
theorem gJz {q:PI} (h:atM E q=some b):∃k,fdM E q=some (k,pv b):=by
 unfold atM at h
 obtain⟨x,hx,rfl⟩:=Option.map_eq_some_iff.1 h
 have hx':=hx
 rw[List.find?_eq_some_iff_getElem]at hx
 obtain⟨h1,i,hi,he,hlt⟩:=hx
 refine⟨i, ?_⟩
 unfold fdM
 have:E.findIdx? (λx=>decide (x.1=q))=some i:=by
  rw[List.findIdx?_eq_some_iff_getElem]
  exact⟨hi,by rw[he];exact h1,λj hj=>by have:=hlt j hj;simpa using this⟩
 rw[this]
 simp[List.getElem?_eq_getElem hi,he]
theorem kFz (h:MapAt w mb E) (t n:Int):(Instr.lookup 71 (.map (some mb)) (idv t n) false).run Tryz.prog w=.ok ((atM E (t,n)).elim (.pointer none) pv) w:=by
 obtain⟨es,clock,hb,he⟩:=h
 have hk:=bkz (t,n) w es.toList E he
 have hc:=λe=>bgz e (t,n) w
 cases hq:atM E (t,n)with
 |none=>
  rw[cPz hq]at hk
  simp[Instr.lookup,run_underlying Tryz.underlying71,MapKept.run_getObj_map hb,hc,hk,Tryz.zeroValue125]
 |some b=>
  obtain⟨k,e⟩:=gJz hq
  rw[e]at hk
  simp[Instr.lookup,run_underlying Tryz.underlying71,MapKept.run_getObj_map hb,hc,hk]
theorem e5z (w:World) (b k:Nat) (o:Obj) (h:k≠b):(Go.ChangeMaps.setBlock w b o).heap[k]? =w.heap[k]? :=by
 unfold Go.ChangeMaps.setBlock
 simp[Array.getElem?_setIfInBounds_ne (Ne.symm h)]
theorem biz (w:World) (b:Nat) (o:Obj):Only (· =b) w (Go.ChangeMaps.setBlock w b o):=⟨rfl,rfl,rfl,by simp[Go.ChangeMaps.setBlock],λi _ hn=>e5z w b i o hn⟩
theorem bUz (o:Obj) (h:b<w.heap.size):(Go.ChangeMaps.setBlock w b o).heap[b]? =some o:=by
 unfold Go.ChangeMaps.setBlock
 simp[h]
theorem d6z (h:MapAt w mb E) (t n:Int) (b:Nat) (hq:atM E (t,n)=none):
  ∃W,(Instr.mapUpdate 71 (.map (some mb)) (idv t n) (pv b)).run Tryz.prog w=.ok () W∧MapAt W mb (E++[((t,n),b)])∧Only (· =mb) w W∧W.heap.size=w.heap.size:=by
 obtain⟨es,clock,hb,he⟩:=h
 have hk:=bkz (t,n) w es.toList E he
 have hc:=λe=>bgz e (t,n) w
 rw[cPz hq]at hk
 refine⟨Go.ChangeMaps.setBlock w mb (.map (es.push ⟨idv t n,pv b,clock⟩) (clock+1)), ?_,⟨_,_,bUz _ (block_lt hb), ?_⟩,biz _ _ _,by simp[Go.ChangeMaps.setBlock]⟩
 ·simp[Instr.mapUpdate,run_underlying Tryz.underlying71,MapKept.run_getObj_map hb,hc,hk,MapKept.run_setObj_map _ hb,Result.andThen,Go.ChangeMaps.setBlock]
 ·rw[Array.toList_push,List.map_append,List.map_append,he]
  rfl
theorem fEz {α β:Type} (f:α→β):∀(l:List α) (i:Nat),(l.eraseIdx i).map f=(l.map f).eraseIdx i
 |[],_=>rfl
 |_::_,0=>rfl
 |x::l,i+1=>by simp only[List.eraseIdx_cons_succ,List.map_cons,fEz f l i]
theorem nkz {t n:Int} (h:MapAt w mb (E++[((t,n),b)])) (hq:atM E (t,n)=none) (ty:TypeId):
  ∃W,(Builtin.delete_ #[71,28] ty #[.map (some mb),idv t n]).run Tryz.prog w=.ok (.tuple #[]) W∧MapAt W mb E∧Only (· =mb) w W∧W.heap.size=w.heap.size:=by
 obtain⟨es,clock,hb,he⟩:=h
 have hk:=bkz (t,n) w es.toList _ he
 have hc:=λe=>bgz e (t,n) w
 have hf:fdM (E++[((t,n),b)]) (t,n)=some (E.length,pv b):=by
  unfold fdM
  unfold atM at hq
  rw[Option.map_eq_none_iff,List.find?_eq_none]at hq
  rw[List.findIdx?_append,List.findIdx?_eq_none_iff.2 (λx hx=>by simpa using hq x hx)]
  simp
 rw[hf]at hk
 refine⟨Go.ChangeMaps.setBlock w mb (.map (es.eraseIdxIfInBounds E.length) clock), ?_,⟨_,_,bUz _ (block_lt hb), ?_⟩,biz _ _ _,by simp[Go.ChangeMaps.setBlock]⟩
 ·simp[Builtin.delete_,run_underlying Tryz.underlying71,MapKept.run_getObj_map hb,hc,hk,MapKept.run_setObj_map _ hb,Result.andThen,Go.ChangeMaps.setBlock]
 ·have hl:es.toList.length=E.length+1:=by
   have:=congrArg List.length he
   simpa using this
  have e1:(es.eraseIdxIfInBounds E.length).toList=es.toList.eraseIdx E.length:=by
   unfold Array.eraseIdxIfInBounds
   have:E.length<es.size:=by rw[← Array.length_toList];omega
   simp[this]
  rw[e1,fEz,he,List.map_append,List.eraseIdx_append_of_length_le (by simp)]
  simp
theorem MapAt.lt (h:MapAt w mb E):mb<w.heap.size:=by
 obtain⟨es,clock,hb,he⟩:=h
 exact block_lt hb
theorem MapAt.kept {w':World} {S:Nat→Prop} (h:MapAt w mb E) (ho:Only S w w') (hn:¬S mb):MapAt w' mb E:=by
 obtain⟨es,clock,hb,he⟩:=h
 exact⟨es,clock,(ho.block mb (block_lt hb) hn).trans hb,he⟩
end Go.Proofs.YthhakekbffembaaGreatDoor.Ck.Y
