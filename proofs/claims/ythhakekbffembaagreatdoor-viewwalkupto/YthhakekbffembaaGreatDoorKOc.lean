import Derived.Test.YthhakekbffembaaGreatDoorQOa
import Derived.Test.YthhakekbffembaaGreatDoorKZr
set_option maxRecDepth 8000
set_option maxHeartbeats 4000000

namespace Go.Proofs.YthhakekbffembaaGreatDoor.Cd
open Go.RowKit Go.Maps
variable {Q:Exit→Act→World→Prop} {base:Array Value} {dd:List Deferred} {ops:Array Oper}
def alz (n:Nat):Code→Option (Array Oper)
 |.region k ops _=>if k=n then some ops else none
 |.seq a b=>match alz n a with|some x=>some x|none=>alz n b
 |.cond _ a b=>match alz n a with|some x=>some x|none=>alz n b
 |.block _ b=>alz n b
 |.loop b=>alz n b
 |.scope b=>alz n b
 |.rangeFunc _ _ a b=>match alz n a with|some x=>some x|none=>alz n b
 |_=>none
theorem jUz (hops:Tryz.f141.body.bind (alz 1)=some ops) (g:Nat) (t n sq kd ot on pt pn:Int) (nm:List UInt8) (p q:Option Addr) (l c m d:Nat) (w9:World) (hsz:base.size=13) (b1:base.getD 1 undef=pO g) (h9:OpB w9 g t n sq kd ot on pt pn nm p q l c m d) (cR:∀W,Below w9.heap.size w9 W→Calls Tryz.prog 42 #[] W λe w'=>e=.returned (.agg #[iV 0,iV 0])∧Below W.heap.size W w') (hr:pt=0∧pn=0) (hQ:∀W,Below w9.heap.size w9 W→Q .normal ⟨abz base [(some 3,.pointer (some ⟨g,6,none⟩)),(some 4,.agg #[iV pt,iV pn]),(some 5,.agg #[iV 0,iV 0]),(some 6,.bool true),(some 7,.bool true),(some 8,undef),(some 9,undef),(some 10,undef),(some 11,undef),(some 12,.bool true),(some 2,.bool true)],dd⟩ W):
  (Code.region 1 ops true).wp Tryz.prog Q ⟨base,dd⟩ w9:=by
 obtain rfl:=Option.some.inj ((show Tryz.f141.body.bind (alz 1)=some _ from rfl).symm.trans hops);clear hops
 refine rU (by kernel_rfl) 13 hsz (by kernel_rfl) rfl hQ λLL hLe b W Ii Oo a hS hcl ho hb hd ev kp yl=> ?_
 have vv2:aaz LL 2=.agg #[iV 0,iV 0]:=vL hLe rfl
 have vv4:aaz LL 4=.bool true:=vL hLe rfl
 have Vv:=aV hLe;have Ee:=aE hLe rfl ev
 have e1:=(kp 1 (by kernel_rfl)).trans b1
 obtain⟨d0,d1,d2,d3,d4,d5,d6,d7,d8,d9,d10⟩:=(h9.below hS).cells
 simp only[AV,AE,Nat.zero_add,Nat.reduceAdd,and_true]at Vv Ee
 match Ii with
 |0|1|3|4|9|10=>simp only[qq]at ho;subst ho;have hd:=aD hd;simp only[AD,and_true]at hd;simp only[Vv];exact dV (by simp[execOp,go_sem,Ee,d6,d7,e1,hd,hr.1,hr.2]) hS
 |2=>
  simp only[qq]at ho;subst ho;rw[vv2]
  refine ayz rfl nofun (f:=42) (args:= #[]) ?_ ?_
  ·simp[go_sem,]
  ·exact(cR W hS).mono (λe w' h=>⟨h.1,hS.trans (h.2.mono hS.size)⟩)
 |5|6|7|8=>simp only[qq]at ho;subst ho;exact a1z rfl (yl 4 7 true rfl (hG hd 4) vv4) (by decide) (vL hLe rfl) (hS)
 |k+11=>simp at ho
theorem lRz (hops:Tryz.f141.body.bind (alz 1)=some ops) (g:Nat) (t n sq kd ot on pt pn:Int) (nm:List UInt8) (p q:Option Addr) (l c m d:Nat) (w9:World) (hsz:base.size=13) (b1:base.getD 1 undef=pO g) (h9:OpB w9 g t n sq kd ot on pt pn nm p q l c m d) (cR:∀W,Below w9.heap.size w9 W→Calls Tryz.prog 42 #[] W λe w'=>e=.returned (.agg #[iV 0,iV 0])∧Below W.heap.size W w') (hr:¬pt=0∨¬pn=0) (x:Bool) (cE:∀W,Below w9.heap.size w9 W→Calls Tryz.prog 143 #[.agg #[iV pt,iV pn],.agg #[iV t,iV n,iV sq,iV kd,iV ot,iV on,iV pt,iV pn,.string (bas nm),.slice p l c,.slice q m d]] W λe w'=>e=.returned (.bool x)∧Below W.heap.size W w') (hQ:∀W,Below w9.heap.size w9 W→Q .normal ⟨abz base [(some 3,.pointer (some ⟨g,6,none⟩)),(some 4,.agg #[iV pt,iV pn]),(some 5,.agg #[iV 0,iV 0]),(some 6,.bool false),(some 7,.bool false),(some 8,.pointer (some ⟨g,6,none⟩)),(some 9,.agg #[iV pt,iV pn]),(some 10,.agg #[iV t,iV n,iV sq,iV kd,iV ot,iV on,iV pt,iV pn,.string (bas nm),.slice p l c,.slice q m d]),(some 11,.bool x),(some 12,.bool x),(some 2,.bool x)],dd⟩ W):
  (Code.region 1 ops true).wp Tryz.prog Q ⟨base,dd⟩ w9:=by
 obtain rfl:=Option.some.inj ((show Tryz.f141.body.bind (alz 1)=some _ from rfl).symm.trans hops);clear hops
 refine rU (by kernel_rfl) 13 hsz (by kernel_rfl) rfl hQ λLL hLe b W Ii Oo a hS hcl ho hb hd ev kp yl=> ?_
 have vv1:aaz LL 1=.agg #[iV pt,iV pn]:=vL hLe rfl
 have vv2:aaz LL 2=.agg #[iV 0,iV 0]:=vL hLe rfl
 have vv3:aaz LL 3=.bool false:=vL hLe rfl
 have vv4:aaz LL 4=.bool false:=vL hLe rfl
 have vv6:aaz LL 6=.agg #[iV pt,iV pn]:=vL hLe rfl
 have vv7:aaz LL 7=.agg #[iV t,iV n,iV sq,iV kd,iV ot,iV on,iV pt,iV pn,.string (bas nm),.slice p l c,.slice q m d]:=vL hLe rfl
 have vv8:aaz LL 8=.bool x:=vL hLe rfl
 have Vv:=aV hLe;have Ee:=aE hLe rfl ev
 have e1:=(kp 1 (by kernel_rfl)).trans b1
 obtain⟨d0,d1,d2,d3,d4,d5,d6,d7,d8,d9,d10⟩:=(h9.below hS).cells
 simp only[AV,AE,Nat.zero_add,Nat.reduceAdd,and_true]at Vv Ee
 match Ii with
 |0|1|4|9|10=>simp only[qq]at ho;subst ho;have hd:=aD hd;simp only[AD,and_true]at hd;simp only[Vv];exact dV (by simp[execOp,go_sem,Ee,d6,d7,e1,hd]) hS
 |5|6|7=>simp only[qq]at ho;subst ho;have hy:=yl 4 7 false rfl (hG hd 4) (by simp only[Vv]);have hd:=aD hd;simp only[AD,and_true]at hd;simp only[Vv];exact dG hy (by simp[execOp,go_sem,Ee,d0,d1,d10,d2,d3,d4,d5,d6,d7,d8,d9,e1,hd]) hS
 |2=>
  simp only[qq]at ho;subst ho;rw[vv2]
  refine ayz rfl nofun (f:=42) (args:= #[]) ?_ ?_
  ·simp[go_sem,]
  ·exact(cR W hS).mono (λe w' h=>⟨h.1,hS.trans (h.2.mono hS.size)⟩)
 |3=>simp only[qq]at ho;subst ho;have e4:=eD ev hd 1 4 vv1;have e5:=eD ev hd 2 5 vv2;rw[vv3];exact dV (by rcases hr with h|h<;>simp[execOp,go_sem,e4,e5,h]) hS
 |8=>
  simp only[qq]at ho;subst ho;have e9:=eD ev hd 6 9 vv6;have e10:=eD ev hd 7 10 vv7;rw[vv8]
  refine apz rfl (yl 4 7 false rfl (hG hd 4) vv4) nofun (f:=143) (args:= #[.agg #[iV pt,iV pn],.agg #[iV t,iV n,iV sq,iV kd,iV ot,iV on,iV pt,iV pn,.string (bas nm),.slice p l c,.slice q m d]]) ?_ ?_
  ·simp[go_sem,e9,e10]
  ·exact(cE W hS).mono (λe w' h=>⟨h.1,hS.trans (h.2.mono hS.size)⟩)
 |k+11=>simp at ho
theorem mRz (hops:Tryz.f100.body.bind (alz 1)=some ops) (g:Nat) (t n sq kd ot on pt pn:Int) (nm:List UInt8) (p q:Option Addr) (l c m d:Nat) (w9:World) (hsz:base.size=28) (b1:base.getD 1 undef=pO g) (h9:OpB w9 g t n sq kd ot on pt pn nm p q l c m d) (h1:¬1≤sq) (hQ:∀W,Below w9.heap.size w9 W→Q .normal ⟨abz base [(some 3,.pointer (some ⟨g,2,none⟩)),(some 4,iV sq),(some 5,.bool false),(some 6,.bool false),(some 7,undef),(some 8,undef),(some 9,undef),(some 10,.bool false),(some 11,.bool false),(some 12,undef),(some 13,undef),(some 14,undef),(some 15,.bool false),(some 16,.bool false),(some 17,undef),(some 18,undef),(some 19,undef),(some 20,undef),(some 21,undef),(some 22,undef),(some 23,undef),(some 24,undef),(some 25,undef),(some 26,undef),(some 27,.bool false),(some 2,.bool false)],dd⟩ W):
  (Code.region 1 ops true).wp Tryz.prog Q ⟨base,dd⟩ w9:=by
 obtain rfl:=Option.some.inj ((show Tryz.f100.body.bind (alz 1)=some _ from rfl).symm.trans hops);clear hops
 refine rU (by kernel_rfl) 28 hsz (by kernel_rfl) rfl hQ λLL hLe b W Ii Oo a hS hcl ho hb hd ev kp yl=> ?_
 have vv3:aaz LL 3=.bool false:=vL hLe rfl
 have vv8:aaz LL 8=.bool false:=vL hLe rfl
 have vv13:aaz LL 13=.bool false:=vL hLe rfl
 have Vv:=aV hLe;have Ee:=aE hLe rfl ev
 have e1:=(kp 1 (by kernel_rfl)).trans b1
 obtain⟨d0,d1,d2,d3,d4,d5,d6,d7,d8,d9,d10⟩:=(h9.below hS).cells
 simp only[AV,AE,Nat.zero_add,Nat.reduceAdd,and_true]at Vv Ee
 match Ii with
 |0|1|2|3|7|8|12|13|24|25=>simp only[qq]at ho;subst ho;have hd:=aD hd;simp only[AD,and_true]at hd;simp only[Vv];exact dV (by simp[execOp,go_sem,Ee,d2,e1,h1,hd]) hS
 |4|5|6=>simp only[qq]at ho;subst ho;exact a1z rfl (yl 3 6 false rfl (hG hd 3) vv3) (by decide) (vL hLe rfl) (hS)
 |9|10|11=>simp only[qq]at ho;subst ho;exact a1z rfl (yl 8 11 false rfl (hG hd 8) vv8) (by decide) (vL hLe rfl) (hS)
 |14|15|16|17|18|19|20|21|22|23=>simp only[qq]at ho;subst ho;exact a1z rfl (yl 13 16 false rfl (hG hd 13) vv13) (by decide) (vL hLe rfl) (hS)
 |k+26=>simp at ho
theorem lbz (hops:Tryz.f100.body.bind (alz 1)=some ops) (g:Nat) (t n sq kd ot on pt pn:Int) (nm:List UInt8) (p q:Option Addr) (l c m d:Nat) (w9:World) (hsz:base.size=28) (b1:base.getD 1 undef=pO g) (h9:OpB w9 g t n sq kd ot on pt pn nm p q l c m d) (h1:1≤sq) (h2:¬sq≤1152921504606846976) (hQ:∀W,Below w9.heap.size w9 W→Q .normal ⟨abz base [(some 3,.pointer (some ⟨g,2,none⟩)),(some 4,iV sq),(some 5,.bool true),(some 6,.bool true),(some 7,.pointer (some ⟨g,2,none⟩)),(some 8,iV sq),(some 9,.bool false),(some 10,.bool false),(some 11,.bool false),(some 12,undef),(some 13,undef),(some 14,undef),(some 15,.bool false),(some 16,.bool false),(some 17,undef),(some 18,undef),(some 19,undef),(some 20,undef),(some 21,undef),(some 22,undef),(some 23,undef),(some 24,undef),(some 25,undef),(some 26,undef),(some 27,.bool false),(some 2,.bool false)],dd⟩ W):
  (Code.region 1 ops true).wp Tryz.prog Q ⟨base,dd⟩ w9:=by
 obtain rfl:=Option.some.inj ((show Tryz.f100.body.bind (alz 1)=some _ from rfl).symm.trans hops);clear hops
 refine rU (by kernel_rfl) 28 hsz (by kernel_rfl) rfl hQ λLL hLe b W Ii Oo a hS hcl ho hb hd ev kp yl=> ?_
 have vv8:aaz LL 8=.bool false:=vL hLe rfl
 have vv13:aaz LL 13=.bool false:=vL hLe rfl
 have Vv:=aV hLe;have Ee:=aE hLe rfl ev
 have e1:=(kp 1 (by kernel_rfl)).trans b1
 obtain⟨d0,d1,d2,d3,d4,d5,d6,d7,d8,d9,d10⟩:=(h9.below hS).cells
 simp only[AV,AE,Nat.zero_add,Nat.reduceAdd,and_true]at Vv Ee
 match Ii with
 |0|1|2|3|7|8|12|13|24|25=>simp only[qq]at ho;subst ho;have hd:=aD hd;simp only[AD,and_true]at hd;simp only[Vv];exact dV (by simp[execOp,go_sem,Ee,d2,e1,h1,hd]) hS
 |4|5|6=>simp only[qq]at ho;subst ho;have hy:=yl 3 6 true rfl (hG hd 3) (by simp only[Vv]);have hd:=aD hd;simp only[AD,and_true]at hd;simp only[Vv];exact dG hy (by simp[execOp,go_sem,Ee,d2,e1,h2,hd]) hS
 |9|10|11=>simp only[qq]at ho;subst ho;exact a1z rfl (yl 8 11 false rfl (hG hd 8) vv8) (by decide) (vL hLe rfl) (hS)
 |14|15|16|17|18|19|20|21|22|23=>simp only[qq]at ho;subst ho;exact a1z rfl (yl 13 16 false rfl (hG hd 13) vv13) (by decide) (vL hLe rfl) (hS)
 |k+26=>simp at ho
theorem miz (hops:Tryz.f100.body.bind (alz 1)=some ops) (g:Nat) (t n sq kd ot on pt pn:Int) (nm:List UInt8) (p q:Option Addr) (l c m d:Nat) (w9:World) (hsz:base.size=28) (b1:base.getD 1 undef=pO g) (h9:OpB w9 g t n sq kd ot on pt pn nm p q l c m d) (h1:1≤sq) (h2:sq≤1152921504606846976) (cV:∀W,Below w9.heap.size w9 W→Calls Tryz.prog 139 #[.slice q m d] W λe w'=>e=.returned (.bool false)∧Below W.heap.size W w') (hQ:∀W,Below w9.heap.size w9 W→Q .normal ⟨abz base [(some 3,.pointer (some ⟨g,2,none⟩)),(some 4,iV sq),(some 5,.bool true),(some 6,.bool true),(some 7,.pointer (some ⟨g,2,none⟩)),(some 8,iV sq),(some 9,.bool true),(some 10,.bool true),(some 11,.bool true),(some 12,.pointer (some ⟨g,10,none⟩)),(some 13,.slice q m d),(some 14,.bool false),(some 15,.bool false),(some 16,.bool false),(some 17,undef),(some 18,undef),(some 19,undef),(some 20,undef),(some 21,undef),(some 22,undef),(some 23,undef),(some 24,undef),(some 25,undef),(some 26,undef),(some 27,.bool false),(some 2,.bool false)],dd⟩ W):
  (Code.region 1 ops true).wp Tryz.prog Q ⟨base,dd⟩ w9:=by
 obtain rfl:=Option.some.inj ((show Tryz.f100.body.bind (alz 1)=some _ from rfl).symm.trans hops);clear hops
 refine rU (by kernel_rfl) 28 hsz (by kernel_rfl) rfl hQ λLL hLe b W Ii Oo a hS hcl ho hb hd ev kp yl=> ?_
 have vv8:aaz LL 8=.bool true:=vL hLe rfl
 have vv10:aaz LL 10=.slice q m d:=vL hLe rfl
 have vv11:aaz LL 11=.bool false:=vL hLe rfl
 have vv13:aaz LL 13=.bool false:=vL hLe rfl
 have Vv:=aV hLe;have Ee:=aE hLe rfl ev
 have e1:=(kp 1 (by kernel_rfl)).trans b1
 obtain⟨d0,d1,d2,d3,d4,d5,d6,d7,d8,d9,d10⟩:=(h9.below hS).cells
 simp only[AV,AE,Nat.zero_add,Nat.reduceAdd,and_true]at Vv Ee
 match Ii with
 |0|1|2|3|7|8|12|13|24|25=>simp only[qq]at ho;subst ho;have hd:=aD hd;simp only[AD,and_true]at hd;simp only[Vv];exact dV (by simp[execOp,go_sem,Ee,d2,e1,h1,hd]) hS
 |4|5|6=>simp only[qq]at ho;subst ho;have hy:=yl 3 6 true rfl (hG hd 3) (by simp only[Vv]);have hd:=aD hd;simp only[AD,and_true]at hd;simp only[Vv];exact dG hy (by simp[execOp,go_sem,Ee,d2,e1,h2,hd]) hS
 |9|10=>simp only[qq]at ho;subst ho;have hy:=yl 8 11 true rfl (hG hd 8) (by simp only[Vv]);have hd:=aD hd;simp only[AD,and_true]at hd;simp only[Vv];exact dG hy (by simp[execOp,go_sem,Ee,d10,e1,hd]) hS
 |11=>
  simp only[qq]at ho;subst ho;have e13:=eD ev hd 10 13 vv10;rw[vv11]
  refine apz rfl (yl 8 11 true rfl (hG hd 8) vv8) nofun (f:=139) (args:= #[.slice q m d]) ?_ ?_
  ·simp[go_sem,e13]
  ·exact(cV W hS).mono (λe w' h=>⟨h.1,hS.trans (h.2.mono hS.size)⟩)
 |14|15|16|17|18|19|20|21|22|23=>simp only[qq]at ho;subst ho;exact a1z rfl (yl 13 16 false rfl (hG hd 13) vv13) (by decide) (vL hLe rfl) (hS)
 |k+26=>simp at ho
theorem nKz (hops:Tryz.f100.body.bind (alz 1)=some ops) (g:Nat) (t n sq kd ot on pt pn:Int) (nm:List UInt8) (p q:Option Addr) (l c m d:Nat) (w9:World) (hsz:base.size=28) (b1:base.getD 1 undef=pO g) (h9:OpB w9 g t n sq kd ot on pt pn nm p q l c m d) (h1:1≤sq) (h2:sq≤1152921504606846976) (z:Int) (cV:∀W,Below w9.heap.size w9 W→Calls Tryz.prog 139 #[.slice q m d] W λe w'=>e=.returned (.bool true)∧Below W.heap.size W w') (cA:∀W,Below w9.heap.size w9 W→Calls Tryz.prog 140 #[.slice q m d,iV n] W λe w'=>e=.returned (iV z)∧Below W.heap.size W w') (hQ:∀W,Below w9.heap.size w9 W→Q .normal ⟨abz base [(some 3,.pointer (some ⟨g,2,none⟩)),(some 4,iV sq),(some 5,.bool true),(some 6,.bool true),(some 7,.pointer (some ⟨g,2,none⟩)),(some 8,iV sq),(some 9,.bool true),(some 10,.bool true),(some 11,.bool true),(some 12,.pointer (some ⟨g,10,none⟩)),(some 13,.slice q m d),(some 14,.bool true),(some 15,.bool true),(some 16,.bool true),(some 17,.pointer (some ⟨g,10,none⟩)),(some 18,.slice q m d),(some 19,pO g),(some 20,.pointer (some ⟨g,1,none⟩)),(some 21,iV n),(some 22,iV z),(some 23,.pointer (some ⟨g,2,none⟩)),(some 24,iV sq),(some 25,iV (sq-1)),(some 26,.bool (z==sq-1)),(some 27,.bool (z==sq-1)),(some 2,.bool (z==sq-1))],dd⟩ W):
  (Code.region 1 ops true).wp Tryz.prog Q ⟨base,dd⟩ w9:=by
 obtain rfl:=Option.some.inj ((show Tryz.f100.body.bind (alz 1)=some _ from rfl).symm.trans hops);clear hops
 refine rU (by kernel_rfl) 28 hsz (by kernel_rfl) rfl hQ λLL hLe b W Ii Oo a hS hcl ho hb hd ev kp yl=> ?_
 have vv8:aaz LL 8=.bool true:=vL hLe rfl
 have vv10:aaz LL 10=.slice q m d:=vL hLe rfl
 have vv11:aaz LL 11=.bool true:=vL hLe rfl
 have vv13:aaz LL 13=.bool true:=vL hLe rfl
 have vv15:aaz LL 15=.slice q m d:=vL hLe rfl
 have vv18:aaz LL 18=iV n:=vL hLe rfl
 have vv19:aaz LL 19=iV z:=vL hLe rfl
 have vv21:aaz LL 21=iV sq:=vL hLe rfl
 have vv22:aaz LL 22=iV (sq-1):=vL hLe rfl
 have Vv:=aV hLe;have Ee:=aE hLe rfl ev
 have e1:=(kp 1 (by kernel_rfl)).trans b1
 obtain⟨d0,d1,d2,d3,d4,d5,d6,d7,d8,d9,d10⟩:=(h9.below hS).cells
 simp only[AV,AE,Nat.zero_add,Nat.reduceAdd,and_true]at Vv Ee
 match Ii with
 |0|1|2|3|7|8|12|13|24|25=>simp only[qq]at ho;subst ho;have hd:=aD hd;simp only[AD,and_true]at hd;simp only[Vv];exact dV (by simp[execOp,go_sem,Ee,d2,e1,h1,hd]) hS
 |4|5|6=>simp only[qq]at ho;subst ho;have hy:=yl 3 6 true rfl (hG hd 3) (by simp only[Vv]);have hd:=aD hd;simp only[AD,and_true]at hd;simp only[Vv];exact dG hy (by simp[execOp,go_sem,Ee,d2,e1,h2,hd]) hS
 |9|10=>simp only[qq]at ho;subst ho;have hy:=yl 8 11 true rfl (hG hd 8) (by simp only[Vv]);have hd:=aD hd;simp only[AD,and_true]at hd;simp only[Vv];exact dG hy (by simp[execOp,go_sem,Ee,d10,e1,hd]) hS
 |14|15|16|17|18|20|21|23=>simp only[qq]at ho;subst ho;have hy:=yl 13 16 true rfl (hG hd 13) (by simp only[Vv]);have hd:=aD hd;simp only[AD,and_true]at hd;simp only[Vv];exact dG hy (by simp[execOp,go_sem,Ee,d1,d10,d2,e1,hd]) hS
 |11=>
  simp only[qq]at ho;subst ho;have e13:=eD ev hd 10 13 vv10;rw[vv11]
  refine apz rfl (yl 8 11 true rfl (hG hd 8) vv8) nofun (f:=139) (args:= #[.slice q m d]) ?_ ?_
  ·simp[go_sem,e13]
  ·exact(cV W hS).mono (λe w' h=>⟨h.1,hS.trans (h.2.mono hS.size)⟩)
 |19=>
  simp only[qq]at ho;subst ho;have e18:=eD ev hd 15 18 vv15;have e21:=eD ev hd 18 21 vv18;rw[vv19]
  refine apz rfl (yl 13 16 true rfl (hG hd 13) vv13) nofun (f:=140) (args:= #[.slice q m d,iV n]) ?_ ?_
  ·simp[go_sem,e18,e21]
  ·exact(cA W hS).mono (λe w' h=>⟨h.1,hS.trans (h.2.mono hS.size)⟩)
 |22=>simp only[qq]at ho;subst ho;have e24:=eD ev hd 21 24 vv21;rw[vv22];exact dG (yl 13 16 true rfl (hG hd 13) vv13) (by simp[execOp,go_sem,e24];rw[IntKind.wrap_i64]<;>omega) hS
 |k+26=>simp at ho
theorem n7z (hops:Tryz.f101.body.bind (alz 6)=some ops) (g:Nat) (t n sq kd ot on pt pn:Int) (nm:List UInt8) (p q:Option Addr) (l c m d:Nat) (w9:World) (hsz:base.size=64) (b1:base.getD 1 undef=pO g) (h9:OpB w9 g t n sq kd ot on pt pn nm p q l c m d) (cE:∀W,Below w9.heap.size w9 W→Calls Tryz.prog 143 #[.agg #[iV ot,iV on],.agg #[iV t,iV n,iV sq,iV kd,iV ot,iV on,iV pt,iV pn,.string (bas nm),.slice p l c,.slice q m d]] W λe w'=>e=.returned (.bool false)∧Below W.heap.size W w') (hQ:∀W,Below w9.heap.size w9 W→Q .normal ⟨abz base [(some 23,.pointer (some ⟨g,4,none⟩)),(some 24,.agg #[iV ot,iV on]),(some 25,.agg #[iV t,iV n,iV sq,iV kd,iV ot,iV on,iV pt,iV pn,.string (bas nm),.slice p l c,.slice q m d]),(some 26,.bool false),(some 27,.bool false),(some 28,undef),(some 29,undef),(some 30,undef),(some 31,undef),(some 32,undef),(some 33,undef),(some 34,undef),(some 35,undef),(some 36,.bool false),(some 37,.bool false),(some 38,undef),(some 39,undef),(some 40,.bool false),(some 2,.bool false)],dd⟩ W):
  (Code.region 6 ops true).wp Tryz.prog Q ⟨base,dd⟩ w9:=by
 obtain rfl:=Option.some.inj ((show Tryz.f101.body.bind (alz 6)=some _ from rfl).symm.trans hops);clear hops
 refine rU (by kernel_rfl) 64 hsz (by kernel_rfl) rfl hQ λLL hLe b W Ii Oo a hS hcl ho hb hd ev kp yl=> ?_
 have vv1:aaz LL 1=.agg #[iV ot,iV on]:=vL hLe rfl
 have vv2:aaz LL 2=.agg #[iV t,iV n,iV sq,iV kd,iV ot,iV on,iV pt,iV pn,.string (bas nm),.slice p l c,.slice q m d]:=vL hLe rfl
 have vv3:aaz LL 3=.bool false:=vL hLe rfl
 have vv4:aaz LL 4=.bool false:=vL hLe rfl
 have vv7:aaz LL 7=undef:=vL hLe rfl
 have vv14:aaz LL 14=.bool false:=vL hLe rfl
 have Vv:=aV hLe;have Ee:=aE hLe rfl ev
 have e1:=(kp 1 (by kernel_rfl)).trans b1
 obtain⟨d0,d1,d2,d3,d4,d5,d6,d7,d8,d9,d10⟩:=(h9.below hS).cells
 simp only[AV,AE,Nat.zero_add,Nat.reduceAdd,and_true]at Vv Ee
 match Ii with
 |0|1|2|4|13|14|17|18=>simp only[qq]at ho;subst ho;have hd:=aD hd;simp only[AD,and_true]at hd;simp only[Vv];exact dV (by simp[execOp,go_sem,Ee,d0,d1,d10,d2,d3,d4,d5,d6,d7,d8,d9,e1,hd]) hS
 |3=>
  simp only[qq]at ho;subst ho;have e24:=eD ev hd 1 24 vv1;have e25:=eD ev hd 2 25 vv2;rw[vv3]
  refine ayz rfl nofun (f:=143) (args:= #[.agg #[iV ot,iV on],.agg #[iV t,iV n,iV sq,iV kd,iV ot,iV on,iV pt,iV pn,.string (bas nm),.slice p l c,.slice q m d]]) ?_ ?_
  ·simp[go_sem,e24,e25]
  ·exact(cE W hS).mono (λe w' h=>⟨h.1,hS.trans (h.2.mono hS.size)⟩)
 |5|6=>simp only[qq]at ho;subst ho;exact a1z rfl (yl 4 27 false rfl (hG hd 4) vv4) (by decide) (vL hLe rfl) (hS)
 |7=>simp only[qq]at ho;subst ho;exact a1z rfl (yl 4 27 false rfl (hG hd 4) vv4) (by decide) vv7 (hS)
 |8|9|10|11=>simp only[qq]at ho;subst ho;exact ahz rfl (akz (j:=7) (s:=30) rfl ((ev 7 30 rfl (hG hd 7)).trans vv7)) (vL hLe rfl) (hS)
 |12=>simp only[qq]at ho;subst ho;exact a1z rfl (yl 4 27 false rfl (hG hd 4) vv4) (by decide) (vL hLe rfl) (hS)
 |15|16=>simp only[qq]at ho;subst ho;exact a1z rfl (yl 14 37 false rfl (hG hd 14) vv14) (by decide) (vL hLe rfl) (hS)
 |k+19=>simp at ho
theorem jGz (hops:Tryz.f101.body.bind (alz 6)=some ops) (g:Nat) (t n sq kd ot on pt pn:Int) (nm:List UInt8) (p q:Option Addr) (l c m d:Nat) (w9:World) (hsz:base.size=64) (b1:base.getD 1 undef=pO g) (h9:OpB w9 g t n sq kd ot on pt pn nm p q l c m d)
  (x:Bool) (cE:∀W,Below w9.heap.size w9 W→Calls Tryz.prog 143 #[.agg #[iV ot,iV on],.agg #[iV t,iV n,iV sq,iV kd,iV ot,iV on,iV pt,iV pn,.string (bas nm),.slice p l c,.slice q m d]] W λe w'=>e=.returned (.bool true)∧Below W.heap.size W w') (cH:∀W,Below w9.heap.size w9 W→Calls Tryz.prog 141 #[.agg #[iV t,iV n,iV sq,iV kd,iV ot,iV on,iV pt,iV pn,.string (bas nm),.slice p l c,.slice q m d]] W λe w'=>e=.returned (.bool true)∧Below W.heap.size W w') (cP:∀W,Below w9.heap.size w9 W→Calls Tryz.prog 142 #[.agg #[iV t,iV n,iV sq,iV kd,iV ot,iV on,iV pt,iV pn,.string (bas nm),.slice p l c,.slice q m d]] W λe w'=>e=.returned (.bool x)∧Below W.heap.size W w') (hQ:∀W,Below w9.heap.size w9 W→Q .normal ⟨abz base [(some 23,.pointer (some ⟨g,4,none⟩)),(some 24,.agg #[iV ot,iV on]),(some 25,.agg #[iV t,iV n,iV sq,iV kd,iV ot,iV on,iV pt,iV pn,.string (bas nm),.slice p l c,.slice q m d]),(some 26,.bool true),(some 27,.bool true),(some 28,.agg #[iV t,iV n,iV sq,iV kd,iV ot,iV on,iV pt,iV pn,.string (bas nm),.slice p l c,.slice q m d]),(some 29,.bool true),(some 30,.bool true),(some 31,undef),(some 32,undef),(some 33,undef),(some 34,undef),(some 35,.bool true),(some 36,.bool true),(some 37,.bool true),(some 38,.agg #[iV t,iV n,iV sq,iV kd,iV ot,iV on,iV pt,iV pn,.string (bas nm),.slice p l c,.slice q m d]),(some 39,.bool x),(some 40,.bool x),(some 2,.bool x)],dd⟩ W):
  (Code.region 6 ops true).wp Tryz.prog Q ⟨base,dd⟩ w9:=by
 obtain rfl:=Option.some.inj ((show Tryz.f101.body.bind (alz 6)=some _ from rfl).symm.trans hops);clear hops
 refine rU (by kernel_rfl) 64 hsz (by kernel_rfl) rfl hQ λLL hLe b W Ii Oo a hS hcl ho hb hd ev kp yl=> ?_
 have vv1:aaz LL 1=.agg #[iV ot,iV on]:=vL hLe rfl
 have vv2:aaz LL 2=.agg #[iV t,iV n,iV sq,iV kd,iV ot,iV on,iV pt,iV pn,.string (bas nm),.slice p l c,.slice q m d]:=vL hLe rfl
 have vv3:aaz LL 3=.bool true:=vL hLe rfl
 have vv4:aaz LL 4=.bool true:=vL hLe rfl
 have vv5:aaz LL 5=.agg #[iV t,iV n,iV sq,iV kd,iV ot,iV on,iV pt,iV pn,.string (bas nm),.slice p l c,.slice q m d]:=vL hLe rfl
 have vv6:aaz LL 6=.bool true:=vL hLe rfl
 have vv7:aaz LL 7=.bool true:=vL hLe rfl
 have vv14:aaz LL 14=.bool true:=vL hLe rfl
 have vv15:aaz LL 15=.agg #[iV t,iV n,iV sq,iV kd,iV ot,iV on,iV pt,iV pn,.string (bas nm),.slice p l c,.slice q m d]:=vL hLe rfl
 have vv16:aaz LL 16=.bool x:=vL hLe rfl
 have Vv:=aV hLe;have Ee:=aE hLe rfl ev
 have e1:=(kp 1 (by kernel_rfl)).trans b1
 obtain⟨d0,d1,d2,d3,d4,d5,d6,d7,d8,d9,d10⟩:=(h9.below hS).cells
 simp only[AV,AE,Nat.zero_add,Nat.reduceAdd,and_true]at Vv Ee
 match Ii with
 |0|1|2|4|13|14|17|18=>simp only[qq]at ho;subst ho;have hd:=aD hd;simp only[AD,and_true]at hd;simp only[Vv];exact dV (by simp[execOp,go_sem,Ee,d0,d1,d10,d2,d3,d4,d5,d6,d7,d8,d9,e1,hd]) hS
 |5|7|12=>simp only[qq]at ho;subst ho;have hy:=yl 4 27 true rfl (hG hd 4) (by simp only[Vv]);have hd:=aD hd;simp only[AD,and_true]at hd;simp only[Vv];exact dG hy (by simp[execOp,go_sem,Ee,d0,d1,d10,d2,d3,d4,d5,d6,d7,d8,d9,e1,hd]) hS
 |15=>simp only[qq]at ho;subst ho;have hy:=yl 14 37 true rfl (hG hd 14) (by simp only[Vv]);simp only[Vv];exact dG hy (by simp[execOp,go_sem,d0,d1,d10,d2,d3,d4,d5,d6,d7,d8,d9,e1]) hS
 |3=>
  simp only[qq]at ho;subst ho;have e24:=eD ev hd 1 24 vv1;have e25:=eD ev hd 2 25 vv2;rw[vv3]
  refine ayz rfl nofun (f:=143) (args:= #[.agg #[iV ot,iV on],.agg #[iV t,iV n,iV sq,iV kd,iV ot,iV on,iV pt,iV pn,.string (bas nm),.slice p l c,.slice q m d]]) ?_ ?_
  ·simp[go_sem,e24,e25]
  ·exact(cE W hS).mono (λe w' h=>⟨h.1,hS.trans (h.2.mono hS.size)⟩)
 |6=>
  simp only[qq]at ho;subst ho;have e28:=eD ev hd 5 28 vv5;rw[vv6]
  refine apz rfl (yl 4 27 true rfl (hG hd 4) vv4) nofun (f:=141) (args:= #[.agg #[iV t,iV n,iV sq,iV kd,iV ot,iV on,iV pt,iV pn,.string (bas nm),.slice p l c,.slice q m d]]) ?_ ?_
  ·simp[go_sem,e28]
  ·exact(cH W hS).mono (λe w' h=>⟨h.1,hS.trans (h.2.mono hS.size)⟩)
 |8|9|10|11=>simp only[qq]at ho;subst ho;exact a1z rfl (yl 7 30 true rfl (hG hd 7) vv7) (by decide) (vL hLe rfl) (hS)
 |16=>
  simp only[qq]at ho;subst ho;have e38:=eD ev hd 15 38 vv15;rw[vv16]
  refine apz rfl (yl 14 37 true rfl (hG hd 14) vv14) nofun (f:=142) (args:= #[.agg #[iV t,iV n,iV sq,iV kd,iV ot,iV on,iV pt,iV pn,.string (bas nm),.slice p l c,.slice q m d]]) ?_ ?_
  ·simp[go_sem,e38]
  ·exact(cP W hS).mono (λe w' h=>⟨h.1,hS.trans (h.2.mono hS.size)⟩)
 |k+19=>simp at ho
theorem isz (hops:Tryz.f101.body.bind (alz 6)=some ops) (g:Nat) (t n sq kd ot on pt pn:Int) (nm:List UInt8) (p q:Option Addr) (l c m d:Nat) (w9:World) (hsz:base.size=64) (b1:base.getD 1 undef=pO g) (h9:OpB w9 g t n sq kd ot on pt pn nm p q l c m d)
  (x:Bool) (cE:∀W,Below w9.heap.size w9 W→Calls Tryz.prog 143 #[.agg #[iV ot,iV on],.agg #[iV t,iV n,iV sq,iV kd,iV ot,iV on,iV pt,iV pn,.string (bas nm),.slice p l c,.slice q m d]] W λe w'=>e=.returned (.bool true)∧Below W.heap.size W w') (cH:∀W,Below w9.heap.size w9 W→Calls Tryz.prog 141 #[.agg #[iV t,iV n,iV sq,iV kd,iV ot,iV on,iV pt,iV pn,.string (bas nm),.slice p l c,.slice q m d]] W λe w'=>e=.returned (.bool false)∧Below W.heap.size W w') (cT:∀W,Below w9.heap.size w9 W→Calls Tryz.prog 144 #[] W λe w'=>e=.returned (.agg #[iV 0,iV 1])∧Below W.heap.size W w') (hr:pt=0∧pn=1) (cP:∀W,Below w9.heap.size w9 W→Calls Tryz.prog 142 #[.agg #[iV t,iV n,iV sq,iV kd,iV ot,iV on,iV pt,iV pn,.string (bas nm),.slice p l c,.slice q m d]] W λe w'=>e=.returned (.bool x)∧Below W.heap.size W w') (hQ:∀W,Below w9.heap.size w9 W→Q .normal ⟨abz base [(some 23,.pointer (some ⟨g,4,none⟩)),(some 24,.agg #[iV ot,iV on]),(some 25,.agg #[iV t,iV n,iV sq,iV kd,iV ot,iV on,iV pt,iV pn,.string (bas nm),.slice p l c,.slice q m d]),(some 26,.bool true),(some 27,.bool true),(some 28,.agg #[iV t,iV n,iV sq,iV kd,iV ot,iV on,iV pt,iV pn,.string (bas nm),.slice p l c,.slice q m d]),(some 29,.bool false),(some 30,.bool false),(some 31,.pointer (some ⟨g,6,none⟩)),(some 32,.agg #[iV pt,iV pn]),(some 33,.agg #[iV 0,iV 1]),(some 34,.bool true),(some 35,.bool true),(some 36,.bool true),(some 37,.bool true),(some 38,.agg #[iV t,iV n,iV sq,iV kd,iV ot,iV on,iV pt,iV pn,.string (bas nm),.slice p l c,.slice q m d]),(some 39,.bool x),(some 40,.bool x),(some 2,.bool x)],dd⟩ W):
  (Code.region 6 ops true).wp Tryz.prog Q ⟨base,dd⟩ w9:=by
 obtain rfl:=Option.some.inj ((show Tryz.f101.body.bind (alz 6)=some _ from rfl).symm.trans hops);clear hops
 refine rU (by kernel_rfl) 64 hsz (by kernel_rfl) rfl hQ λLL hLe b W Ii Oo a hS hcl ho hb hd ev kp yl=> ?_
 have vv1:aaz LL 1=.agg #[iV ot,iV on]:=vL hLe rfl
 have vv2:aaz LL 2=.agg #[iV t,iV n,iV sq,iV kd,iV ot,iV on,iV pt,iV pn,.string (bas nm),.slice p l c,.slice q m d]:=vL hLe rfl
 have vv3:aaz LL 3=.bool true:=vL hLe rfl
 have vv4:aaz LL 4=.bool true:=vL hLe rfl
 have vv5:aaz LL 5=.agg #[iV t,iV n,iV sq,iV kd,iV ot,iV on,iV pt,iV pn,.string (bas nm),.slice p l c,.slice q m d]:=vL hLe rfl
 have vv6:aaz LL 6=.bool false:=vL hLe rfl
 have vv7:aaz LL 7=.bool false:=vL hLe rfl
 have vv10:aaz LL 10=.agg #[iV 0,iV 1]:=vL hLe rfl
 have vv14:aaz LL 14=.bool true:=vL hLe rfl
 have vv15:aaz LL 15=.agg #[iV t,iV n,iV sq,iV kd,iV ot,iV on,iV pt,iV pn,.string (bas nm),.slice p l c,.slice q m d]:=vL hLe rfl
 have vv16:aaz LL 16=.bool x:=vL hLe rfl
 have Vv:=aV hLe;have Ee:=aE hLe rfl ev
 have e1:=(kp 1 (by kernel_rfl)).trans b1
 obtain⟨d0,d1,d2,d3,d4,d5,d6,d7,d8,d9,d10⟩:=(h9.below hS).cells
 simp only[AV,AE,Nat.zero_add,Nat.reduceAdd,and_true]at Vv Ee
 match Ii with
 |0|1|2|4|13|14|17|18=>simp only[qq]at ho;subst ho;have hd:=aD hd;simp only[AD,and_true]at hd;simp only[Vv];exact dV (by simp[execOp,go_sem,Ee,d0,d1,d10,d2,d3,d4,d5,d6,d7,d8,d9,e1,hd]) hS
 |5|7|12=>simp only[qq]at ho;subst ho;have hy:=yl 4 27 true rfl (hG hd 4) (by simp only[Vv]);have hd:=aD hd;simp only[AD,and_true]at hd;simp only[Vv];exact dG hy (by simp[execOp,go_sem,Ee,d0,d1,d10,d2,d3,d4,d5,d6,d7,d8,d9,e1,hd]) hS
 |8|9|11=>simp only[qq]at ho;subst ho;have hy:=yl 7 30 false rfl (hG hd 7) (by simp only[Vv]);have hd:=aD hd;simp only[AD,and_true]at hd;simp only[Vv];exact dG hy (by simp[execOp,go_sem,Ee,d6,d7,e1,hd,hr.1,hr.2]) hS
 |15=>simp only[qq]at ho;subst ho;have hy:=yl 14 37 true rfl (hG hd 14) (by simp only[Vv]);simp only[Vv];exact dG hy (by simp[execOp,go_sem,d0,d1,d10,d2,d3,d4,d5,d6,d7,d8,d9,e1]) hS
 |3=>
  simp only[qq]at ho;subst ho;have e24:=eD ev hd 1 24 vv1;have e25:=eD ev hd 2 25 vv2;rw[vv3]
  refine ayz rfl nofun (f:=143) (args:= #[.agg #[iV ot,iV on],.agg #[iV t,iV n,iV sq,iV kd,iV ot,iV on,iV pt,iV pn,.string (bas nm),.slice p l c,.slice q m d]]) ?_ ?_
  ·simp[go_sem,e24,e25]
  ·exact(cE W hS).mono (λe w' h=>⟨h.1,hS.trans (h.2.mono hS.size)⟩)
 |6=>
  simp only[qq]at ho;subst ho;have e28:=eD ev hd 5 28 vv5;rw[vv6]
  refine apz rfl (yl 4 27 true rfl (hG hd 4) vv4) nofun (f:=141) (args:= #[.agg #[iV t,iV n,iV sq,iV kd,iV ot,iV on,iV pt,iV pn,.string (bas nm),.slice p l c,.slice q m d]]) ?_ ?_
  ·simp[go_sem,e28]
  ·exact(cH W hS).mono (λe w' h=>⟨h.1,hS.trans (h.2.mono hS.size)⟩)
 |10=>
  simp only[qq]at ho;subst ho;rw[vv10]
  refine apz rfl (yl 7 30 false rfl (hG hd 7) vv7) nofun (f:=144) (args:= #[]) ?_ ?_
  ·simp[go_sem,]
  ·exact(cT W hS).mono (λe w' h=>⟨h.1,hS.trans (h.2.mono hS.size)⟩)
 |16=>
  simp only[qq]at ho;subst ho;have e38:=eD ev hd 15 38 vv15;rw[vv16]
  refine apz rfl (yl 14 37 true rfl (hG hd 14) vv14) nofun (f:=142) (args:= #[.agg #[iV t,iV n,iV sq,iV kd,iV ot,iV on,iV pt,iV pn,.string (bas nm),.slice p l c,.slice q m d]]) ?_ ?_
  ·simp[go_sem,e38]
  ·exact(cP W hS).mono (λe w' h=>⟨h.1,hS.trans (h.2.mono hS.size)⟩)
 |k+19=>simp at ho
theorem guz (hops:Tryz.f101.body.bind (alz 6)=some ops) (g:Nat) (t n sq kd ot on pt pn:Int) (nm:List UInt8) (p q:Option Addr) (l c m d:Nat) (w9:World) (hsz:base.size=64) (b1:base.getD 1 undef=pO g) (h9:OpB w9 g t n sq kd ot on pt pn nm p q l c m d) (cE:∀W,Below w9.heap.size w9 W→Calls Tryz.prog 143 #[.agg #[iV ot,iV on],.agg #[iV t,iV n,iV sq,iV kd,iV ot,iV on,iV pt,iV pn,.string (bas nm),.slice p l c,.slice q m d]] W λe w'=>e=.returned (.bool true)∧Below W.heap.size W w') (cH:∀W,Below w9.heap.size w9 W→Calls Tryz.prog 141 #[.agg #[iV t,iV n,iV sq,iV kd,iV ot,iV on,iV pt,iV pn,.string (bas nm),.slice p l c,.slice q m d]] W λe w'=>e=.returned (.bool false)∧Below W.heap.size W w') (cT:∀W,Below w9.heap.size w9 W→Calls Tryz.prog 144 #[] W λe w'=>e=.returned (.agg #[iV 0,iV 1])∧Below W.heap.size W w') (hr:¬pt=0∨¬pn=1) (hQ:∀W,Below w9.heap.size w9 W→Q .normal ⟨abz base [(some 23,.pointer (some ⟨g,4,none⟩)),(some 24,.agg #[iV ot,iV on]),(some 25,.agg #[iV t,iV n,iV sq,iV kd,iV ot,iV on,iV pt,iV pn,.string (bas nm),.slice p l c,.slice q m d]),(some 26,.bool true),(some 27,.bool true),(some 28,.agg #[iV t,iV n,iV sq,iV kd,iV ot,iV on,iV pt,iV pn,.string (bas nm),.slice p l c,.slice q m d]),(some 29,.bool false),(some 30,.bool false),(some 31,.pointer (some ⟨g,6,none⟩)),(some 32,.agg #[iV pt,iV pn]),(some 33,.agg #[iV 0,iV 1]),(some 34,.bool false),(some 35,.bool false),(some 36,.bool false),(some 37,.bool false),(some 38,undef),(some 39,undef),(some 40,.bool false),(some 2,.bool false)],dd⟩ W):
  (Code.region 6 ops true).wp Tryz.prog Q ⟨base,dd⟩ w9:=by
 obtain rfl:=Option.some.inj ((show Tryz.f101.body.bind (alz 6)=some _ from rfl).symm.trans hops);clear hops
 refine rU (by kernel_rfl) 64 hsz (by kernel_rfl) rfl hQ λLL hLe b W Ii Oo a hS hcl ho hb hd ev kp yl=> ?_
 have vv1:aaz LL 1=.agg #[iV ot,iV on]:=vL hLe rfl
 have vv2:aaz LL 2=.agg #[iV t,iV n,iV sq,iV kd,iV ot,iV on,iV pt,iV pn,.string (bas nm),.slice p l c,.slice q m d]:=vL hLe rfl
 have vv3:aaz LL 3=.bool true:=vL hLe rfl
 have vv4:aaz LL 4=.bool true:=vL hLe rfl
 have vv5:aaz LL 5=.agg #[iV t,iV n,iV sq,iV kd,iV ot,iV on,iV pt,iV pn,.string (bas nm),.slice p l c,.slice q m d]:=vL hLe rfl
 have vv6:aaz LL 6=.bool false:=vL hLe rfl
 have vv7:aaz LL 7=.bool false:=vL hLe rfl
 have vv9:aaz LL 9=.agg #[iV pt,iV pn]:=vL hLe rfl
 have vv10:aaz LL 10=.agg #[iV 0,iV 1]:=vL hLe rfl
 have vv11:aaz LL 11=.bool false:=vL hLe rfl
 have vv14:aaz LL 14=.bool false:=vL hLe rfl
 have Vv:=aV hLe;have Ee:=aE hLe rfl ev
 have e1:=(kp 1 (by kernel_rfl)).trans b1
 obtain⟨d0,d1,d2,d3,d4,d5,d6,d7,d8,d9,d10⟩:=(h9.below hS).cells
 simp only[AV,AE,Nat.zero_add,Nat.reduceAdd,and_true]at Vv Ee
 match Ii with
 |0|1|2|4|13|14|17|18=>simp only[qq]at ho;subst ho;have hd:=aD hd;simp only[AD,and_true]at hd;simp only[Vv];exact dV (by simp[execOp,go_sem,Ee,d0,d1,d10,d2,d3,d4,d5,d6,d7,d8,d9,e1,hd]) hS
 |5|7|12=>simp only[qq]at ho;subst ho;have hy:=yl 4 27 true rfl (hG hd 4) (by simp only[Vv]);have hd:=aD hd;simp only[AD,and_true]at hd;simp only[Vv];exact dG hy (by simp[execOp,go_sem,Ee,d0,d1,d10,d2,d3,d4,d5,d6,d7,d8,d9,e1,hd]) hS
 |8|9=>simp only[qq]at ho;subst ho;have hy:=yl 7 30 false rfl (hG hd 7) (by simp only[Vv]);have hd:=aD hd;simp only[AD,and_true]at hd;simp only[Vv];exact dG hy (by simp[execOp,go_sem,Ee,d6,d7,e1,hd]) hS
 |3=>
  simp only[qq]at ho;subst ho;have e24:=eD ev hd 1 24 vv1;have e25:=eD ev hd 2 25 vv2;rw[vv3]
  refine ayz rfl nofun (f:=143) (args:= #[.agg #[iV ot,iV on],.agg #[iV t,iV n,iV sq,iV kd,iV ot,iV on,iV pt,iV pn,.string (bas nm),.slice p l c,.slice q m d]]) ?_ ?_
  ·simp[go_sem,e24,e25]
  ·exact(cE W hS).mono (λe w' h=>⟨h.1,hS.trans (h.2.mono hS.size)⟩)
 |6=>
  simp only[qq]at ho;subst ho;have e28:=eD ev hd 5 28 vv5;rw[vv6]
  refine apz rfl (yl 4 27 true rfl (hG hd 4) vv4) nofun (f:=141) (args:= #[.agg #[iV t,iV n,iV sq,iV kd,iV ot,iV on,iV pt,iV pn,.string (bas nm),.slice p l c,.slice q m d]]) ?_ ?_
  ·simp[go_sem,e28]
  ·exact(cH W hS).mono (λe w' h=>⟨h.1,hS.trans (h.2.mono hS.size)⟩)
 |10=>
  simp only[qq]at ho;subst ho;rw[vv10]
  refine apz rfl (yl 7 30 false rfl (hG hd 7) vv7) nofun (f:=144) (args:= #[]) ?_ ?_
  ·simp[go_sem,]
  ·exact(cT W hS).mono (λe w' h=>⟨h.1,hS.trans (h.2.mono hS.size)⟩)
 |11=>simp only[qq]at ho;subst ho;have e32:=eD ev hd 9 32 vv9;have e33:=eD ev hd 10 33 vv10;rw[vv11];exact dG (yl 7 30 false rfl (hG hd 7) vv7) (by rcases hr with h|h<;>simp[execOp,go_sem,e32,e33,h]) hS
 |15|16=>simp only[qq]at ho;subst ho;exact a1z rfl (yl 14 37 false rfl (hG hd 14) vv14) (by decide) (vL hLe rfl) (hS)
 |k+19=>simp at ho
theorem iCz (hops:Tryz.f26.body.bind (alz 1)=some ops) (g:Nat) (t n sq kd ot on pt pn:Int) (nm:List UInt8) (p q:Option Addr) (l c m d:Nat) (w9:World) (hsz:base.size=128) (b1:base.getD 1 undef=pO g) (h9:OpB w9 g t n sq kd ot on pt pn nm p q l c m d) (cV:∀W,Below w9.heap.size w9 W→Calls Tryz.prog 60 #[.agg #[iV t,iV n]] W λe w'=>e=.returned (.bool false)∧Below W.heap.size W w') (hQ:∀W,Below w9.heap.size w9 W→Q .normal ⟨abz base [(some 3,pO g),(some 4,.agg #[iV t,iV n]),(some 5,.bool false),(some 6,.bool true),(some 7,.bool true),(some 8,undef),(some 9,undef),(some 10,undef),(some 11,.bool true),(some 12,.bool true),(some 13,undef),(some 14,undef),(some 15,undef),(some 16,.bool true),(some 17,.bool true),(some 18,undef),(some 19,undef),(some 20,undef),(some 21,undef),(some 22,.bool true),(some 23,.bool true),(some 24,undef),(some 25,undef),(some 26,undef),(some 27,undef),(some 28,undef),(some 29,undef),(some 30,undef),(some 31,undef),(some 32,undef),(some 33,undef),(some 34,.bool true)],dd⟩ W):
  (Code.region 1 ops true).wp Tryz.prog Q ⟨base,dd⟩ w9:=by
 obtain rfl:=Option.some.inj ((show Tryz.f26.body.bind (alz 1)=some _ from rfl).symm.trans hops);clear hops
 refine rU (by kernel_rfl) 128 hsz (by kernel_rfl) rfl hQ λLL hLe b W Ii Oo a hS hcl ho hb hd ev kp yl=> ?_
 have vv1:aaz LL 1=.agg #[iV t,iV n]:=vL hLe rfl
 have vv2:aaz LL 2=.bool false:=vL hLe rfl
 have vv4:aaz LL 4=.bool true:=vL hLe rfl
 have vv9:aaz LL 9=.bool true:=vL hLe rfl
 have vv14:aaz LL 14=.bool true:=vL hLe rfl
 have vv20:aaz LL 20=.bool true:=vL hLe rfl
 have Vv:=aV hLe;have Ee:=aE hLe rfl ev
 have e1:=(kp 1 (by kernel_rfl)).trans b1
 obtain⟨d0,d1,d2,d3,d4,d5,d6,d7,d8,d9,d10⟩:=(h9.below hS).cells
 simp only[AV,AE,Nat.zero_add,Nat.reduceAdd,and_true]at Vv Ee
 match Ii with
 |0|1|3|4|8|9|13|14|19|20|31=>simp only[qq]at ho;subst ho;have hd:=aD hd;simp only[AD,and_true]at hd;simp only[Vv];exact dV (by simp[execOp,go_sem,Ee,d0,d1,e1,hd]) hS
 |2=>
  simp only[qq]at ho;subst ho;have e4:=eD ev hd 1 4 vv1;rw[vv2]
  refine ayz rfl nofun (f:=60) (args:= #[.agg #[iV t,iV n]]) ?_ ?_
  ·simp[go_sem,e4]
  ·exact(cV W hS).mono (λe w' h=>⟨h.1,hS.trans (h.2.mono hS.size)⟩)
 |5|6|7=>simp only[qq]at ho;subst ho;exact a1z rfl (yl 4 7 true rfl (hG hd 4) vv4) (by decide) (vL hLe rfl) (hS)
 |10|11|12=>simp only[qq]at ho;subst ho;exact a1z rfl (yl 9 12 true rfl (hG hd 9) vv9) (by decide) (vL hLe rfl) (hS)
 |15|16|17|18=>simp only[qq]at ho;subst ho;exact a1z rfl (yl 14 17 true rfl (hG hd 14) vv14) (by decide) (vL hLe rfl) (hS)
 |21|22|23|24|25|26|27|28|29|30=>simp only[qq]at ho;subst ho;exact a1z rfl (yl 20 23 true rfl (hG hd 20) vv20) (by decide) (vL hLe rfl) (hS)
 |k+32=>simp at ho
theorem lQz (hops:Tryz.f26.body.bind (alz 1)=some ops) (g:Nat) (t n sq kd ot on pt pn:Int) (nm:List UInt8) (p q:Option Addr) (l c m d:Nat) (w9:World) (hsz:base.size=128) (b1:base.getD 1 undef=pO g) (h9:OpB w9 g t n sq kd ot on pt pn nm p q l c m d) (cV:∀W,Below w9.heap.size w9 W→Calls Tryz.prog 60 #[.agg #[iV t,iV n]] W λe w'=>e=.returned (.bool true)∧Below W.heap.size W w') (h1:sq<1) (hQ:∀W,Below w9.heap.size w9 W→Q .normal ⟨abz base [(some 3,pO g),(some 4,.agg #[iV t,iV n]),(some 5,.bool true),(some 6,.bool false),(some 7,.bool false),(some 8,.pointer (some ⟨g,2,none⟩)),(some 9,iV sq),(some 10,.bool true),(some 11,.bool true),(some 12,.bool true),(some 13,undef),(some 14,undef),(some 15,undef),(some 16,.bool true),(some 17,.bool true),(some 18,undef),(some 19,undef),(some 20,undef),(some 21,undef),(some 22,.bool true),(some 23,.bool true),(some 24,undef),(some 25,undef),(some 26,undef),(some 27,undef),(some 28,undef),(some 29,undef),(some 30,undef),(some 31,undef),(some 32,undef),(some 33,undef),(some 34,.bool true)],dd⟩ W):
  (Code.region 1 ops true).wp Tryz.prog Q ⟨base,dd⟩ w9:=by
 obtain rfl:=Option.some.inj ((show Tryz.f26.body.bind (alz 1)=some _ from rfl).symm.trans hops);clear hops
 refine rU (by kernel_rfl) 128 hsz (by kernel_rfl) rfl hQ λLL hLe b W Ii Oo a hS hcl ho hb hd ev kp yl=> ?_
 have vv1:aaz LL 1=.agg #[iV t,iV n]:=vL hLe rfl
 have vv2:aaz LL 2=.bool true:=vL hLe rfl
 have vv9:aaz LL 9=.bool true:=vL hLe rfl
 have vv14:aaz LL 14=.bool true:=vL hLe rfl
 have vv20:aaz LL 20=.bool true:=vL hLe rfl
 have Vv:=aV hLe;have Ee:=aE hLe rfl ev
 have e1:=(kp 1 (by kernel_rfl)).trans b1
 obtain⟨d0,d1,d2,d3,d4,d5,d6,d7,d8,d9,d10⟩:=(h9.below hS).cells
 simp only[AV,AE,Nat.zero_add,Nat.reduceAdd,and_true]at Vv Ee
 match Ii with
 |0|1|3|4|8|9|13|14|19|20|31=>simp only[qq]at ho;subst ho;have hd:=aD hd;simp only[AD,and_true]at hd;simp only[Vv];exact dV (by simp[execOp,go_sem,Ee,d0,d1,e1,hd]) hS
 |5|6|7=>simp only[qq]at ho;subst ho;have hy:=yl 4 7 false rfl (hG hd 4) (by simp only[Vv]);have hd:=aD hd;simp only[AD,and_true]at hd;simp only[Vv];exact dG hy (by simp[execOp,go_sem,Ee,d2,e1,h1,hd]) hS
 |2=>
  simp only[qq]at ho;subst ho;have e4:=eD ev hd 1 4 vv1;rw[vv2]
  refine ayz rfl nofun (f:=60) (args:= #[.agg #[iV t,iV n]]) ?_ ?_
  ·simp[go_sem,e4]
  ·exact(cV W hS).mono (λe w' h=>⟨h.1,hS.trans (h.2.mono hS.size)⟩)
 |10|11|12=>simp only[qq]at ho;subst ho;exact a1z rfl (yl 9 12 true rfl (hG hd 9) vv9) (by decide) (vL hLe rfl) (hS)
 |15|16|17|18=>simp only[qq]at ho;subst ho;exact a1z rfl (yl 14 17 true rfl (hG hd 14) vv14) (by decide) (vL hLe rfl) (hS)
 |21|22|23|24|25|26|27|28|29|30=>simp only[qq]at ho;subst ho;exact a1z rfl (yl 20 23 true rfl (hG hd 20) vv20) (by decide) (vL hLe rfl) (hS)
 |k+32=>simp at ho
theorem k7z (hops:Tryz.f26.body.bind (alz 1)=some ops) (g:Nat) (t n sq kd ot on pt pn:Int) (nm:List UInt8) (p q:Option Addr) (l c m d:Nat) (w9:World) (hsz:base.size=128) (b1:base.getD 1 undef=pO g) (h9:OpB w9 g t n sq kd ot on pt pn nm p q l c m d) (cV:∀W,Below w9.heap.size w9 W→Calls Tryz.prog 60 #[.agg #[iV t,iV n]] W λe w'=>e=.returned (.bool true)∧Below W.heap.size W w') (h1:¬sq<1) (h2:1152921504606846976<sq) (hQ:∀W,Below w9.heap.size w9 W→Q .normal ⟨abz base [(some 3,pO g),(some 4,.agg #[iV t,iV n]),(some 5,.bool true),(some 6,.bool false),(some 7,.bool false),(some 8,.pointer (some ⟨g,2,none⟩)),(some 9,iV sq),(some 10,.bool false),(some 11,.bool false),(some 12,.bool false),(some 13,.pointer (some ⟨g,2,none⟩)),(some 14,iV sq),(some 15,.bool true),(some 16,.bool true),(some 17,.bool true),(some 18,undef),(some 19,undef),(some 20,undef),(some 21,undef),(some 22,.bool true),(some 23,.bool true),(some 24,undef),(some 25,undef),(some 26,undef),(some 27,undef),(some 28,undef),(some 29,undef),(some 30,undef),(some 31,undef),(some 32,undef),(some 33,undef),(some 34,.bool true)],dd⟩ W):
  (Code.region 1 ops true).wp Tryz.prog Q ⟨base,dd⟩ w9:=by
 obtain rfl:=Option.some.inj ((show Tryz.f26.body.bind (alz 1)=some _ from rfl).symm.trans hops);clear hops
 refine rU (by kernel_rfl) 128 hsz (by kernel_rfl) rfl hQ λLL hLe b W Ii Oo a hS hcl ho hb hd ev kp yl=> ?_
 have vv1:aaz LL 1=.agg #[iV t,iV n]:=vL hLe rfl
 have vv2:aaz LL 2=.bool true:=vL hLe rfl
 have vv14:aaz LL 14=.bool true:=vL hLe rfl
 have vv20:aaz LL 20=.bool true:=vL hLe rfl
 have Vv:=aV hLe;have Ee:=aE hLe rfl ev
 have e1:=(kp 1 (by kernel_rfl)).trans b1
 obtain⟨d0,d1,d2,d3,d4,d5,d6,d7,d8,d9,d10⟩:=(h9.below hS).cells
 simp only[AV,AE,Nat.zero_add,Nat.reduceAdd,and_true]at Vv Ee
 match Ii with
 |0|1|3|4|8|9|13|14|19|20|31=>simp only[qq]at ho;subst ho;have hd:=aD hd;simp only[AD,and_true]at hd;simp only[Vv];exact dV (by simp[execOp,go_sem,Ee,d0,d1,e1,hd]) hS
 |5|6|7=>simp only[qq]at ho;subst ho;have hy:=yl 4 7 false rfl (hG hd 4) (by simp only[Vv]);have hd:=aD hd;simp only[AD,and_true]at hd;simp only[Vv];exact dG hy (by simp[execOp,go_sem,Ee,d2,e1,h1,hd]) hS
 |10|11|12=>simp only[qq]at ho;subst ho;have hy:=yl 9 12 false rfl (hG hd 9) (by simp only[Vv]);have hd:=aD hd;simp only[AD,and_true]at hd;simp only[Vv];exact dG hy (by simp[execOp,go_sem,Ee,d2,e1,h2,hd]) hS
 |2=>
  simp only[qq]at ho;subst ho;have e4:=eD ev hd 1 4 vv1;rw[vv2]
  refine ayz rfl nofun (f:=60) (args:= #[.agg #[iV t,iV n]]) ?_ ?_
  ·simp[go_sem,e4]
  ·exact(cV W hS).mono (λe w' h=>⟨h.1,hS.trans (h.2.mono hS.size)⟩)
 |15|16|17|18=>simp only[qq]at ho;subst ho;exact a1z rfl (yl 14 17 true rfl (hG hd 14) vv14) (by decide) (vL hLe rfl) (hS)
 |21|22|23|24|25|26|27|28|29|30=>simp only[qq]at ho;subst ho;exact a1z rfl (yl 20 23 true rfl (hG hd 20) vv20) (by decide) (vL hLe rfl) (hS)
 |k+32=>simp at ho
theorem kWz (hops:Tryz.f26.body.bind (alz 1)=some ops) (g:Nat) (t n sq kd ot on pt pn:Int) (nm:List UInt8) (p q:Option Addr) (l c m d:Nat) (w9:World) (hsz:base.size=128) (b1:base.getD 1 undef=pO g) (h9:OpB w9 g t n sq kd ot on pt pn nm p q l c m d) (cV:∀W,Below w9.heap.size w9 W→Calls Tryz.prog 60 #[.agg #[iV t,iV n]] W λe w'=>e=.returned (.bool true)∧Below W.heap.size W w') (h1:¬sq<1) (h2:¬1152921504606846976<sq) (cM:∀W,Below w9.heap.size w9 W→Calls Tryz.prog 61 #[.slice q m d] W λe w'=>e=.returned (.bool false)∧Below W.heap.size W w') (hQ:∀W,Below w9.heap.size w9 W→Q .normal ⟨abz base [(some 3,pO g),(some 4,.agg #[iV t,iV n]),(some 5,.bool true),(some 6,.bool false),(some 7,.bool false),(some 8,.pointer (some ⟨g,2,none⟩)),(some 9,iV sq),(some 10,.bool false),(some 11,.bool false),(some 12,.bool false),(some 13,.pointer (some ⟨g,2,none⟩)),(some 14,iV sq),(some 15,.bool false),(some 16,.bool false),(some 17,.bool false),(some 18,.pointer (some ⟨g,10,none⟩)),(some 19,.slice q m d),(some 20,.bool false),(some 21,.bool true),(some 22,.bool true),(some 23,.bool true),(some 24,undef),(some 25,undef),(some 26,undef),(some 27,undef),(some 28,undef),(some 29,undef),(some 30,undef),(some 31,undef),(some 32,undef),(some 33,undef),(some 34,.bool true)],dd⟩ W):
  (Code.region 1 ops true).wp Tryz.prog Q ⟨base,dd⟩ w9:=by
 obtain rfl:=Option.some.inj ((show Tryz.f26.body.bind (alz 1)=some _ from rfl).symm.trans hops);clear hops
 refine rU (by kernel_rfl) 128 hsz (by kernel_rfl) rfl hQ λLL hLe b W Ii Oo a hS hcl ho hb hd ev kp yl=> ?_
 have vv1:aaz LL 1=.agg #[iV t,iV n]:=vL hLe rfl
 have vv2:aaz LL 2=.bool true:=vL hLe rfl
 have vv14:aaz LL 14=.bool false:=vL hLe rfl
 have vv16:aaz LL 16=.slice q m d:=vL hLe rfl
 have vv17:aaz LL 17=.bool false:=vL hLe rfl
 have vv20:aaz LL 20=.bool true:=vL hLe rfl
 have Vv:=aV hLe;have Ee:=aE hLe rfl ev
 have e1:=(kp 1 (by kernel_rfl)).trans b1
 obtain⟨d0,d1,d2,d3,d4,d5,d6,d7,d8,d9,d10⟩:=(h9.below hS).cells
 simp only[AV,AE,Nat.zero_add,Nat.reduceAdd,and_true]at Vv Ee
 match Ii with
 |0|1|3|4|8|9|13|14|19|20|31=>simp only[qq]at ho;subst ho;have hd:=aD hd;simp only[AD,and_true]at hd;simp only[Vv];exact dV (by simp[execOp,go_sem,Ee,d0,d1,e1,hd]) hS
 |5|6|7=>simp only[qq]at ho;subst ho;have hy:=yl 4 7 false rfl (hG hd 4) (by simp only[Vv]);have hd:=aD hd;simp only[AD,and_true]at hd;simp only[Vv];exact dG hy (by simp[execOp,go_sem,Ee,d2,e1,h1,hd]) hS
 |10|11|12=>simp only[qq]at ho;subst ho;have hy:=yl 9 12 false rfl (hG hd 9) (by simp only[Vv]);have hd:=aD hd;simp only[AD,and_true]at hd;simp only[Vv];exact dG hy (by simp[execOp,go_sem,Ee,d2,e1,h2,hd]) hS
 |15|16|18=>simp only[qq]at ho;subst ho;have hy:=yl 14 17 false rfl (hG hd 14) (by simp only[Vv]);have hd:=aD hd;simp only[AD,and_true]at hd;simp only[Vv];exact dG hy (by simp[execOp,go_sem,Ee,d10,e1,hd]) hS
 |2=>
  simp only[qq]at ho;subst ho;have e4:=eD ev hd 1 4 vv1;rw[vv2]
  refine ayz rfl nofun (f:=60) (args:= #[.agg #[iV t,iV n]]) ?_ ?_
  ·simp[go_sem,e4]
  ·exact(cV W hS).mono (λe w' h=>⟨h.1,hS.trans (h.2.mono hS.size)⟩)
 |17=>
  simp only[qq]at ho;subst ho;have e19:=eD ev hd 16 19 vv16;rw[vv17]
  refine apz rfl (yl 14 17 false rfl (hG hd 14) vv14) nofun (f:=61) (args:= #[.slice q m d]) ?_ ?_
  ·simp[go_sem,e19]
  ·exact(cM W hS).mono (λe w' h=>⟨h.1,hS.trans (h.2.mono hS.size)⟩)
 |21|22|23|24|25|26|27|28|29|30=>simp only[qq]at ho;subst ho;exact a1z rfl (yl 20 23 true rfl (hG hd 20) vv20) (by decide) (vL hLe rfl) (hS)
 |k+32=>simp at ho
theorem j0z (hops:Tryz.f26.body.bind (alz 1)=some ops) (g:Nat) (t n sq kd ot on pt pn:Int) (nm:List UInt8) (p q:Option Addr) (l c m d:Nat) (w9:World) (hsz:base.size=128) (b1:base.getD 1 undef=pO g) (h9:OpB w9 g t n sq kd ot on pt pn nm p q l c m d) (cV:∀W,Below w9.heap.size w9 W→Calls Tryz.prog 60 #[.agg #[iV t,iV n]] W λe w'=>e=.returned (.bool true)∧Below W.heap.size W w') (h1:¬sq<1) (h2:¬1152921504606846976<sq) (z:Int) (cM:∀W,Below w9.heap.size w9 W→Calls Tryz.prog 61 #[.slice q m d] W λe w'=>e=.returned (.bool true)∧Below W.heap.size W w') (cA:∀W,Below w9.heap.size w9 W→Calls Tryz.prog 62 #[.slice q m d,iV n] W λe w'=>e=.returned (iV z)∧Below W.heap.size W w') (hQ:∀W,Below w9.heap.size w9 W→Q .normal ⟨abz base [(some 3,pO g),(some 4,.agg #[iV t,iV n]),(some 5,.bool true),(some 6,.bool false),(some 7,.bool false),(some 8,.pointer (some ⟨g,2,none⟩)),(some 9,iV sq),(some 10,.bool false),(some 11,.bool false),(some 12,.bool false),(some 13,.pointer (some ⟨g,2,none⟩)),(some 14,iV sq),(some 15,.bool false),(some 16,.bool false),(some 17,.bool false),(some 18,.pointer (some ⟨g,10,none⟩)),(some 19,.slice q m d),(some 20,.bool true),(some 21,.bool false),(some 22,.bool false),(some 23,.bool false),(some 24,.pointer (some ⟨g,10,none⟩)),(some 25,.slice q m d),(some 26,pO g),(some 27,.pointer (some ⟨g,1,none⟩)),(some 28,iV n),(some 29,iV z),(some 30,.pointer (some ⟨g,2,none⟩)),(some 31,iV sq),(some 32,iV (sq-1)),(some 33,.bool (z != sq-1)),(some 34,.bool (z != sq-1))],dd⟩ W):
  (Code.region 1 ops true).wp Tryz.prog Q ⟨base,dd⟩ w9:=by
 obtain rfl:=Option.some.inj ((show Tryz.f26.body.bind (alz 1)=some _ from rfl).symm.trans hops);clear hops
 refine rU (by kernel_rfl) 128 hsz (by kernel_rfl) rfl hQ λLL hLe b W Ii Oo a hS hcl ho hb hd ev kp yl=> ?_
 have vv1:aaz LL 1=.agg #[iV t,iV n]:=vL hLe rfl
 have vv2:aaz LL 2=.bool true:=vL hLe rfl
 have vv14:aaz LL 14=.bool false:=vL hLe rfl
 have vv16:aaz LL 16=.slice q m d:=vL hLe rfl
 have vv17:aaz LL 17=.bool true:=vL hLe rfl
 have vv20:aaz LL 20=.bool false:=vL hLe rfl
 have vv22:aaz LL 22=.slice q m d:=vL hLe rfl
 have vv25:aaz LL 25=iV n:=vL hLe rfl
 have vv26:aaz LL 26=iV z:=vL hLe rfl
 have vv28:aaz LL 28=iV sq:=vL hLe rfl
 have vv29:aaz LL 29=iV (sq-1):=vL hLe rfl
 have Vv:=aV hLe;have Ee:=aE hLe rfl ev
 have e1:=(kp 1 (by kernel_rfl)).trans b1
 obtain⟨d0,d1,d2,d3,d4,d5,d6,d7,d8,d9,d10⟩:=(h9.below hS).cells
 simp only[AV,AE,Nat.zero_add,Nat.reduceAdd,and_true]at Vv Ee
 match Ii with
 |0|1|3|4|8|9|13|14|19|20|31=>simp only[qq]at ho;subst ho;have hd:=aD hd;simp only[AD,and_true]at hd;simp only[Vv];exact dV (by simp[execOp,go_sem,Ee,d0,d1,e1,hd]) hS
 |5|6|7=>simp only[qq]at ho;subst ho;have hy:=yl 4 7 false rfl (hG hd 4) (by simp only[Vv]);have hd:=aD hd;simp only[AD,and_true]at hd;simp only[Vv];exact dG hy (by simp[execOp,go_sem,Ee,d2,e1,h1,hd]) hS
 |10|11|12=>simp only[qq]at ho;subst ho;have hy:=yl 9 12 false rfl (hG hd 9) (by simp only[Vv]);have hd:=aD hd;simp only[AD,and_true]at hd;simp only[Vv];exact dG hy (by simp[execOp,go_sem,Ee,d2,e1,h2,hd]) hS
 |15|16|18=>simp only[qq]at ho;subst ho;have hy:=yl 14 17 false rfl (hG hd 14) (by simp only[Vv]);have hd:=aD hd;simp only[AD,and_true]at hd;simp only[Vv];exact dG hy (by simp[execOp,go_sem,Ee,d10,e1,hd]) hS
 |21|22|23|24|25|27|28|30=>simp only[qq]at ho;subst ho;have hy:=yl 20 23 false rfl (hG hd 20) (by simp only[Vv]);have hd:=aD hd;simp only[AD,and_true]at hd;simp only[Vv];exact dG hy (by simp[execOp,go_sem,Ee,d1,d10,d2,e1,hd]) hS
 |2=>
  simp only[qq]at ho;subst ho;have e4:=eD ev hd 1 4 vv1;rw[vv2]
  refine ayz rfl nofun (f:=60) (args:= #[.agg #[iV t,iV n]]) ?_ ?_
  ·simp[go_sem,e4]
  ·exact(cV W hS).mono (λe w' h=>⟨h.1,hS.trans (h.2.mono hS.size)⟩)
 |17=>
  simp only[qq]at ho;subst ho;have e19:=eD ev hd 16 19 vv16;rw[vv17]
  refine apz rfl (yl 14 17 false rfl (hG hd 14) vv14) nofun (f:=61) (args:= #[.slice q m d]) ?_ ?_
  ·simp[go_sem,e19]
  ·exact(cM W hS).mono (λe w' h=>⟨h.1,hS.trans (h.2.mono hS.size)⟩)
 |26=>
  simp only[qq]at ho;subst ho;have e25:=eD ev hd 22 25 vv22;have e28:=eD ev hd 25 28 vv25;rw[vv26]
  refine apz rfl (yl 20 23 false rfl (hG hd 20) vv20) nofun (f:=62) (args:= #[.slice q m d,iV n]) ?_ ?_
  ·simp[go_sem,e25,e28]
  ·exact(cA W hS).mono (λe w' h=>⟨h.1,hS.trans (h.2.mono hS.size)⟩)
 |29=>simp only[qq]at ho;subst ho;have e31:=eD ev hd 28 31 vv28;rw[vv29];exact dG (yl 20 23 false rfl (hG hd 20) vv20) (by simp[execOp,go_sem,e31];rw[IntKind.wrap_i64]<;>omega) hS
 |k+32=>simp at ho
end Go.Proofs.YthhakekbffembaaGreatDoor.Cd
