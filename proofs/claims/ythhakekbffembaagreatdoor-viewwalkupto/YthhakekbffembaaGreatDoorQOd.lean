import Derived.Test.YthhakekbffembaaGreatDoorKOc
set_option maxRecDepth 8000
set_option maxHeartbeats 4000000

namespace Go.Proofs.YthhakekbffembaaGreatDoor.Cd
open Go.RowKit
attribute [local go_sem] Oper.semAt_some
def nz (x:Int):Bool:=decide (x≠0)
theorem mKz:nz 0=false:=rfl
theorem i7z {x:Int} (h:¬x=0):nz x=true:=decide_eq_true h
theorem mVz (ns:List Int) (k:Nat):Vc.atOf ns k=atOf ns k:=by
 unfold Vc.atOf atOf
 cases ns[k]? <;>rfl
theorem nCz (ns:List Int):∀k,Vc.tl ns k=tl ns k
 |0=>rfl
 |k+1=>by rw[Vc.tl,tl,nCz ns k]
theorem nGz (ns:List Int):Vc.nums (Vc.atOf ns)=bqz ns 64:=by
 unfold Vc.nums Vc.numsTo bqz
 exact List.map_congr_left (λk _=>mVz ns k)
theorem mvz (ns:List Int):Vc.vec (Vc.atOf ns)=aMz ns:=by
 unfold Vc.vec aMz
 rw[nGz,nCz]
theorem hGz (ns:List Int):(aMz ns).length=tl (bqz ns 64) 64:=by
 have:=dYz (bqz ns 64) 64
 unfold aMz
 rw[List.length_take,dMz]
 omega
theorem iPz (ns:List Int):(aMz ns).length=0∨∃x,(aMz ns)[(aMz ns).length-1]? =some x∧x≠0∧ns[(aMz ns).length-1]? =some x:=by
 have hl:=hGz ns
 have hle:=dYz (bqz ns 64) 64
 rcases Nat.eq_zero_or_pos (tl (bqz ns 64) 64)with h|h
 ·left;omega
 ·right
  have h1:=(g0z (bqz ns 64) 64).resolve_left (by omega)
  have h2:=e9z ns 64 (tl (bqz ns 64) 64-1) (by omega)
  rw[h2]at h1
  have h3:atOf ns (tl (bqz ns 64) 64-1)≠0:=λe=>h1 (by rw[e])
  refine⟨atOf ns (tl (bqz ns 64) 64-1), ?_,h3, ?_⟩
  ·rw[hl]
   unfold aMz
   rw[List.getElem?_take,if_pos (by omega)]
   exact h2
  ·rw[hl]
   unfold atOf at h3⊢
   cases hx:ns[tl (bqz ns 64) 64-1]? with
   |none=>rw[hx]at h3;exact absurd rfl h3
   |some x=>
    rw[hx]at h3
    simp only at h3⊢
    by_cases ho:okN x=true
    ·rw[if_pos ho]
    ·rw[if_neg ho]at h3;exact absurd rfl h3
theorem eZz (ns:List Int):(aMz ns).length≤ns.length:=by
 rcases iPz ns with h|⟨x,_,_,h⟩
 ·omega
 ·have:=(List.getElem?_eq_some_iff.1 h).1
  omega
theorem hPz (ns:List Int):(decide (ns.take (aMz ns).length=aMz ns)&& !(ns.drop (aMz ns).length).any nz)=c5z ns:=by
 rw[Bool.eq_iff_iff]
 constructor
 ·intro h
  rw[Bool.and_eq_true,decide_eq_true_eq,Bool.not_eq_true',List.any_eq_false]at h
  obtain⟨h1,h2⟩:=h
  have ht:tl ns ns.length=(aMz ns).length:=by
   refine goz ns _ ?_ _ (eZz ns) ?_
   ·rcases iPz ns with h|⟨x,_,hx,h⟩
    ·exact .inl h
    ·exact .inr ⟨x,h,hx⟩
   ·intro j hj hl
    have:=h2 ns[j] (by
     rw[List.mem_iff_getElem?]
     exact⟨j-(aMz ns).length,by rw[List.getElem?_drop,show(aMz ns).length+(j-(aMz ns).length)=j by omega];exact List.getElem?_eq_getElem hl⟩)
    rw[List.getElem?_eq_getElem hl]
    have:ns[j]=0:=by unfold nz at this;simpa using this
    rw[this]
  unfold c5z
  rw[ht,h1,Bool.and_eq_true,decide_eq_true_eq,List.all_eq_true]
  exact⟨fSz ns,jVz ns⟩
 ·intro h
  have h1:=jFz ns h
  have hlen:(aMz ns).length=tl ns ns.length:=by
   rw[h1,List.length_take]
   have:=dYz ns ns.length
   omega
  rw[Bool.and_eq_true,decide_eq_true_eq,Bool.not_eq_true',List.any_eq_false]
  refine⟨by rw[hlen];exact h1.symm, ?_⟩
  intro x hx
  rw[List.mem_iff_getElem?]at hx
  obtain⟨j,hj⟩:=hx
  rw[List.getElem?_drop]at hj
  have hl:=(List.getElem?_eq_some_iff.1 hj).1
  have:=d5z ns ns.length ((aMz ns).length+j) (by omega) hl
  rw[this]at hj
  cases hj
  simp[nz]
theorem below_drewN {B:Nat} {a w:World} (h:Below B a w) (q:Nat):Below B a (w.drewN q):=⟨h.os,h.tape,h.output,h.size,h.block⟩
theorem iuz (p q:Option Addr) (a b:List Int) (cp cq:Nat) (w:World) (ha:a.length≤1000000) (hp:Lies w p (a.map iv)) (hq:Lies w q (b.map iv)):
  Calls Tryz.prog 175 #[.slice p a.length cp,.slice q b.length cq] w λe w'=>e=.returned (.bool (decide (a=b)))∧Below w.heap.size w w':=by
 by_cases hl:a.length=b.length
 ·have hlI:(a.length:Int)=b.length:=by omega
  have HL:=a0z hl
  have HP:=a0z hp
  have HQ:=a0z hq
  rw[← hl]
  clear hl hlI hp hq
  obtain⟨m,hm⟩:∃m,a.length=m:=⟨_,rfl⟩
  rw[hm]
  have hm6:m≤1000000:=by omega
  have HM:=a0z hm
  clear hm ha
  go_enter Tryz.func175,Tryz.ntmps175
  go_wp2_with fail
  go_loopw [13] (λii wr=>∃i:Nat,ii=.int .i64 i∧i≤m∧Hid (Below w.heap.size w wr)∧Hid (∀j,j<i→a[j]? =b[j]?)) (λii _=>m-(intOf ii).toNat)
  case atStart=>exact⟨0,rfl,Nat.zero_le _,Below.refl _ _,λj hj=>by omega⟩
  case round=>
   obtain⟨i,rfl,hi,HB,HI⟩:=hrel
   by_cases hlt:i<m
   ·have hltI:(i:Int)<m:=by omega
    obtain⟨x,hx⟩:∃x,a[i]? =some x:=⟨_,List.getElem?_eq_getElem (by rw[HM.out];exact hlt)⟩
    obtain⟨y,hy⟩:∃y,b[i]? =some y:=⟨_,List.getElem?_eq_getElem (by rw[← HL.out,HM.out];exact hlt)⟩
    obtain⟨g,o,rfl,hc⟩:=HP.out (by simp;rw[HM.out];omega)
    obtain⟨g',o',rfl,hc'⟩:=HQ.out (by simp;rw[← HL.out,HM.out];omega)
    have c1:=(HB.out.cell (p:=⟨g,o+i,none⟩) (a4z (hc i (iv x) (by simp[hx])))).trans (hc i (iv x) (by simp[hx]))
    have c2:=(HB.out.cell (p:=⟨g',o'+i,none⟩) (a4z (hc' i (iv y) (by simp[hy])))).trans (hc' i (iv y) (by simp[hy]))
    unfold iv at c1 c2
    by_cases hxy:x=y
    ·have HN:Hid (∀j,j<i+1→a[j]? =b[j]?):=λj hj=>by
      by_cases e:j=i
      ·rw[e,hx,hy,hxy]
      ·exact HI.out j (by omega)
     subst hxy
     clear hx hy hc hc'
     go_wp2_with fail
     go_quiet (fail)
     go_wp2
     exact⟨⟨i+1,by simp,by omega,below_drewN HB.out nq,HN⟩,by simp[intOf];omega⟩
    ·have HF:Hid (decide (a=b)=false):=by
      show _=_
      refine decide_eq_false (λe=>hxy ?_)
      rw[e,hy]at hx
      cases hx;rfl
     clear hx hy hc hc'
     go_wp2_with fail
     go_quiet (fail)
     go_wp2
     go_ret
     rw[HF.out]
     exact⟨rfl,below_drewN HB.out nq⟩
   ·obtain rfl:i=m:=by omega
    have HF:Hid (decide (a=b)=true):=by
     show _=_
     refine decide_eq_true (List.ext_getElem? (λj=> ?_))
     by_cases hj:j<i
     ·exact HI.out j hj
     ·rw[List.getElem?_eq_none (by rw[HM.out];omega),List.getElem?_eq_none (by rw[← HL.out,HM.out];omega)]
    go_wp2
    go_ret
    rw[HF.out]
    exact⟨rfl,HB.out⟩
 ·have hlI:¬(a.length:Int)=b.length:=by omega
  have HF:Hid (decide (a=b)=false):=by
   show _=_
   exact decide_eq_false (λe=>hl (by rw[e]))
  clear hp hq hl
  generalize a.length=m at*
  generalize b.length=k at*
  go_enter Tryz.func175,Tryz.ntmps175
  go_wp2
  go_ret
  rw[HF.out]
  exact⟨rfl,Below.refl _ _⟩
theorem gLz (x:Int) (w:World):Calls Tryz.prog 177 #[.int .i64 x] w λe w'=>e=.returned (.bool (nz x))∧w'=w:=by
 by_cases h:x=0
 ·subst h
  go_enter Tryz.func177,Tryz.ntmps177
  go_wp2
  go_ret
  exact⟨rfl,rfl⟩
 ·go_enter Tryz.func177,Tryz.ntmps177
  go_wp2
  go_ret
  exact⟨by rw[i7z h];simp[h],rfl⟩
theorem iAz (p:Option Addr) (a:List Int) (cp:Nat) (w:World) (ha:a.length≤1000000) (hp:Lies w p (a.map iv)):
  Calls Tryz.prog 201 #[.slice p a.length cp,.func (.func 177) #[] #[]] w λe w'=>(∃z:Int,e=.returned (.int .i64 z)∧(decide (0≤z))=a.any nz)∧w'=w:=by
 have HP:=a0z hp
 obtain⟨m,hm⟩:∃m,a.length=m:=⟨_,rfl⟩
 rw[hm]
 have hm6:m≤1000000:=by omega
 have HM:=a0z hm
 have hen:=λargs W=>enters Tryz.func177 (by kernel_rfl) rfl args W
 clear hm ha hp
 go_enter Tryz.func201,Tryz.ntmps201
 go_wp2_with fail
 go_loop [8] (λii=>∃i:Nat,ii=.int .i64 i∧i≤m∧Hid (∀j,j<i→a[j]? =some 0)) (λii=>m-(intOf ii).toNat)
 case atStart=>exact⟨0,rfl,Nat.zero_le _,λj hj=>by omega⟩
 case round=>
  obtain⟨i,rfl,hi,HI⟩:=hrel
  by_cases hlt:i<m
  ·have hltI:(i:Int)<m:=by omega
   obtain⟨x,hx⟩:∃x,a[i]? =some x:=⟨_,List.getElem?_eq_getElem (by rw[HM.out];exact hlt)⟩
   obtain⟨g,o,rfl,hc⟩:=HP.out (by simp;rw[HM.out];omega)
   have c1:=hc i (iv x) (by simp[hx])
   unfold iv at c1
   have cz:=gLz x
   by_cases hxy:x=0
   ·have HN:Hid (∀j,j<i+1→a[j]? =some 0):=λj hj=>by
     by_cases e:j=i
     ·rw[e,hx,hxy]
     ·exact HI.out j (by omega)
    subst hxy
    rw[mKz]at cz
    clear hx hc
    go_wp2_with (go_at_call 177;refine adz (cz _) ?_)
    exact⟨⟨i+1,by simp,by omega,HN⟩,by simp[intOf];omega⟩
   ·have HF:Hid (a.any nz=true):=by
     show _=_
     rw[List.any_eq_true]
     exact⟨x,List.mem_of_getElem? hx,i7z hxy⟩
    rw[i7z hxy]at cz
    clear hx hc
    go_wp2_with (go_at_call 177;refine adz (cz _) ?_)
    go_ret
    exact⟨⟨_,rfl,by rw[HF.out];simp⟩,rfl⟩
  ·obtain rfl:i=m:=by omega
   have HF:Hid (a.any nz=false):=by
    show _=_
    rw[List.any_eq_false]
    intro x hx
    obtain⟨j,hj⟩:=List.getElem?_of_mem hx
    have:=HI.out j (by have:=(List.getElem?_eq_some_iff.1 hj).1;rw[HM.out]at this;exact this)
    rw[this]at hj
    cases hj
    simp[nz]
   go_wp2
   go_ret
   exact⟨⟨_,rfl,HF.out.symm⟩,rfl⟩
theorem ciz (p:Option Addr) (a:List Int) (cp:Nat) (w:World) (ha:a.length≤1000000) (hp:Lies w p (a.map iv)):
  Calls Tryz.prog 176 #[.slice p a.length cp,.func (.func 177) #[] #[]] w λe w'=>e=.returned (.bool (a.any nz))∧w'=w:=by
 have c:=iAz p a cp w ha hp
 generalize a.length=m at*
 generalize a.any nz=b at*
 clear hp ha
 go_enter Tryz.func176,Tryz.ntmps176
 go_wp2_with fail
 refine c.mono ?_
 rintro e w' ⟨⟨z,rfl,hz⟩,rfl⟩
 clear c
 by_cases h:0≤z
 ·have HB:Hid (b=true):=by show _=_;rw[← hz];simp[h]
  clear hz
  go_wp2
  go_ret
  rw[HB.out]
  exact⟨by first|rfl|(simp;omega),rfl⟩
 ·have HB:Hid (b=false):=by show _=_;rw[← hz];simp[h]
  clear hz
  go_wp2
  go_ret
  rw[HB.out]
  exact⟨by first|rfl|(simp;omega),rfl⟩
theorem kpz {w:World} {g o:Nat} {xs:List Value} (h:Lies w (some ⟨g,o,none⟩) xs) (k:Nat):Lies w (some ⟨g,o+k,none⟩) (xs.drop k):=by
 intro hl
 rw[List.length_drop]at hl
 obtain⟨b,o',e,hc⟩:=h (by omega)
 cases e
 refine⟨g,o+k,rfl,λj x hj=> ?_⟩
 rw[List.getElem?_drop]at hj
 rw[Nat.add_assoc]
 exact hc (k+j) x hj
theorem i0z (q:Option Addr) (ns:List Int) (d:Nat) (w:World) (hl:ns.length≤1000000) (hd:ns.length≤d) (hq:Lies w q (ns.map iv)):
  Calls Tryz.prog 139 #[.slice q ns.length d] w λe w'=>e=.returned (.bool (c5z ns))∧Below w.heap.size w w':=by
 have cN:=Vc.norm_any q ns d w hq
 rw[mvz]at cN
 have hs:=eZz ns
 have hp:=hPz ns
 have HLT:Hid ((ns.take (aMz ns).length).length=(aMz ns).length):=by show _=_;rw[List.length_take];omega
 have HLD:Hid ((ns.drop (aMz ns).length).length=ns.length-(aMz ns).length):=by show _=_;rw[List.length_drop]
 obtain⟨xs,hxs⟩:∃xs,aMz ns=xs:=⟨_,rfl⟩
 rw[hxs]at cN hs hp HLT HLD
 have HP:=a0z hp
 have HQ:=a0z hq
 have HXL:Hid (xs.length≤64):=by show _≤_;rw[← hxs];exact fSz ns
 clear hp hq hxs
 go_enter Tryz.func139,Tryz.ntmps139
 go_wp2_with fail
 refine cN.mono ?_
 rintro e w1 ⟨p1,c1,rfl,hl1,hb1⟩
 have HB1:=a0z hb1
 have HQ1:Hid (Lies w1 q (ns.map iv)):=below_lies hb1 HQ.out
 have HT:Hid (Lies w1 q ((ns.take xs.length).map iv)):=by
  have:=lies_take HQ1.out xs.length
  rwa [← List.map_take]at this
 have cE:=iuz q p1 (ns.take xs.length) xs d c1 w1 (by rw[HLT.out];omega) HT.out hl1
 rw[HLT.out]at cE
 have hxd:xs.length≤d:=by omega
 clear cN hb1 hl1
 by_cases hE:ns.take xs.length=xs
 ·rw[decide_eq_true hE]at cE
  have HM:Hid (c5z ns= !(ns.drop xs.length).any nz):=by
   show _=_
   rw[← HP.out,decide_eq_true hE,Bool.true_and]
  by_cases hn:ns=[]
  ·subst hn
   obtain rfl:xs=[]:=by rw[← hE];simp
   have HMM:Hid (c5z []=true):=by rw[HM.out];rfl
   have HZ:Hid (∀W q' c',Calls Tryz.prog 176 #[.slice q' 0 c',.func (.func 177) #[] #[]] W λe w'=>e=.returned (.bool false)∧w'=W):=λW q' c'=>ciz q' [] c' W (by decide) (dPz _ _)
   clear hE hs hd
   rcases q with _|⟨g,o,pa⟩
   ·go_wp2_with (first|(go_at_call 175;refine acz cE ?_;clear cE;intro w2 HB2)|(go_at_call 176;refine adz (HZ.out _ _ _) ?_))
    go_ret
    rw[HMM.out]
    exact⟨rfl,HB1.out.trans (HB2.out.mono HB1.out.size)⟩
   ·go_wp2_with (first|(go_at_call 175;refine acz cE ?_;clear cE;intro w2 HB2)|(go_at_call 176;refine adz (HZ.out _ _ _) ?_))
    go_ret
    rw[HMM.out]
    exact⟨rfl,HB1.out.trans (HB2.out.mono HB1.out.size)⟩
  ·obtain⟨g,o,rfl,_⟩:=HQ1.out (by rw[List.length_map];exact List.length_pos_iff.2 hn)
   by_cases hcd:xs.length=d
   ·have hnd:ns.length=xs.length:=by omega
    have HDR:Hid (ns.drop xs.length=[]):=by show _=_;exact List.drop_eq_nil_of_le (by omega)
    have HMM:Hid (c5z ns=true):=by rw[HM.out,HDR.out];rfl
    have HZ:Hid (∀W q' c',Calls Tryz.prog 176 #[.slice q' 0 c',.func (.func 177) #[] #[]] W λe w'=>e=.returned (.bool false)∧w'=W):=λW q' c'=>ciz q' [] c' W (by decide) (dPz _ _)
    subst hcd
    rw[hnd]
    clear hE hn hs hd hxd
    go_wp2_with (first|(go_at_call 175;refine acz cE ?_;clear cE;intro w2 HB2)|(go_at_call 176;refine adz (HZ.out _ _ _) ?_))
    go_ret
    rw[HMM.out]
    exact⟨rfl,HB1.out.trans (HB2.out.mono HB1.out.size)⟩
   ·have HD:Hid (Lies w1 (some ⟨g,o+xs.length,none⟩) ((ns.drop xs.length).map iv)):=by
     have:=kpz HQ1.out xs.length
     rwa [← List.map_drop]at this
    have HZ:Hid (∀W,Below w1.heap.size w1 W→Calls Tryz.prog 176 #[.slice (some ⟨g,o+xs.length,none⟩) (ns.length-xs.length) (d-xs.length),.func (.func 177) #[] #[]] W λe w'=>e=.returned (.bool ((ns.drop xs.length).any nz))∧w'=W):=λW hW=>by
     have:=ciz (some ⟨g,o+xs.length,none⟩) (ns.drop xs.length) (d-xs.length) W (by rw[HLD.out];omega) (below_lies hW HD.out)
     rwa [HLD.out]at this
    obtain⟨r,hr⟩:∃r,(ns.drop xs.length).any nz=r:=⟨_,rfl⟩
    rw[hr]at HM HZ
    have hcd':¬d=xs.length:=λe=>hcd e.symm
    clear hE hn hr
    go_wp2_with (first|(go_at_call 175;refine acz cE ?_;clear cE;intro w2 HB2)|(go_at_call 176;refine adz (HZ.out _ HB2.out) ?_))
    go_ret
    rw[HM.out]
    exact⟨rfl,HB1.out.trans (HB2.out.mono HB1.out.size)⟩
 ·rw[decide_eq_false hE]at cE
  have HM:Hid (c5z ns=false):=by
   show _=_
   rw[← HP.out,decide_eq_false hE,Bool.false_and]
  clear hE
  go_wp2_with (go_at_call 175;refine acz cE ?_;clear cE;intro w2 HB2)
  go_ret
  rw[HM.out]
  exact⟨rfl,HB1.out.trans (HB2.out.mono HB1.out.size)⟩
end Go.Proofs.YthhakekbffembaaGreatDoor.Cd

namespace Go.Proofs.YthhakekbffembaaGreatDoor.Cd
open Go.RowKit Go.Maps
attribute [local go_sem] Oper.semAt_some
def aGz (a b:Int):Bool:=decide (a=0)&&decide (b=0)
def awz (a b:Int):Bool:=decide (a=0)&&decide (b=1)
def azz (a b x y:Int):Bool:=decide (a=x)&&decide (b=y)
def countB (n sq:Int) (ns:List Int):Bool:=decide (1≤sq)&&decide (sq≤1152921504606846976)&&c5z ns&&decide (Vc.atZ ns n=sq-1)
def kindB (t n kd ot on pt pn:Int) (nm:List UInt8) (l:Nat):Bool:=
 if kd=1∨kd=2 then azz ot on t n&&(aGz pt pn||aBz pt pn t n)&&placedB nm l
 else if kd=3 then aBz ot on t n&&(aGz pt pn||aBz pt pn t n||awz pt pn)&&placedB nm l
 else if kd=4 then aBz ot on t n&&aGz pt pn&&decide (nm=[])&&decide (l≤65536)
 else false
def mayO (t n sq kd ot on pt pn:Int) (nm:List UInt8) (l:Nat) (ns:List Int):Bool:=Ck.validB t n&&countB n sq ns&&kindB t n kd ot on pt pn nm l
theorem olderB_time {a b t n:Int} (h:aBz a b t n=true):1≤a:=by
 unfold aBz at h
 rw[Bool.and_eq_true]at h
 exact(Ck.validB_true.1 h.1).1
theorem ebz {f:Nat} {args:Array Value} {w:World} {v:Ending} (h:Calls Tryz.prog f args w λe w'=>e=v∧w'=w):Calls Tryz.prog f args w λe w'=>e=v∧Below w.heap.size w w':=
 h.mono (by rintro e w' ⟨rfl,rfl⟩;exact⟨rfl,Below.refl _ _⟩)
theorem lXz (t n sq kd ot on pt pn:Int) (nm:List UInt8) (p q:Option Addr) (l c m d:Nat) (w:World):
  Calls Tryz.prog 141 #[.agg #[.int .i64 t,.int .i64 n,.int .i64 sq,.int .i64 kd,.int .i64 ot,.int .i64 on,.int .i64 pt,.int .i64 pn,.string (bas nm),.slice p l c,.slice q m d]] w λe w'=>e=.returned (.bool (aGz pt pn||aBz pt pn t n))∧Below w.heap.size w w':=by
 have H9:Hid (OpB (w.alloc (.cells #[.int .i64 t,.int .i64 n,.int .i64 sq,.int .i64 kd,.int .i64 ot,.int .i64 on,.int .i64 pt,.int .i64 pn,.string (bas nm),.slice p l c,.slice q m d] 33)) w.heap.size t n sq kd ot on pt pn nm p q l c m d):=OpB.made w t n sq kd ot on pt pn nm p q l c m d
 have B0:Hid (∀o,Below w.heap.size w (w.alloc o)):=λo=>(a3z w o).out
 have HE:Hid (∀W,Calls Tryz.prog 143 #[idv pt pn,.agg #[.int .i64 t,.int .i64 n,.int .i64 sq,.int .i64 kd,.int .i64 ot,.int .i64 on,.int .i64 pt,.int .i64 pn,.string (bas nm),.slice p l c,.slice q m d]] W λe w'=>e=.returned (.bool (aBz pt pn t n))∧Below W.heap.size W w'):=λW=>eqz pt pn t n sq kd ot on pt pn nm p q l c m d W
 by_cases hr:pt=0∧pn=0
 ·have HF:Hid ((aGz pt pn||aBz pt pn t n)=true):=by show _=_;simp[aGz,hr]
  have HR:=a0z hr
  clear hr
  go_enter Tryz.func141,Tryz.ntmps141
  go_wp2_with fail
  refine jUz (by kernel_rfl) w.heap.size t n sq kd ot on pt pn nm p q l c m d _ rfl rfl H9.out (λW _=>root_any W) HR.out ?_
  intro W hS
  have HS:Hid (Below w.heap.size w W):=(B0.out _).trans (hS.mono (B0.out _).size)
  clear hS
  simp only[abz,sA,sB,sC]
  go_wp2
  go_ret
  rw[HF.out]
  exact⟨rfl,HS.out⟩
 ·have HF:Hid ((aGz pt pn||aBz pt pn t n)=aBz pt pn t n):=by
   show _=_
   have:aGz pt pn=false:=by
    unfold aGz
    by_cases h1:pt=0
    ·have:¬pn=0:=λh2=>hr ⟨h1,h2⟩
     simp[this]
    ·simp[h1]
   rw[this,Bool.false_or]
  have HR:Hid (¬pt=0∨¬pn=0):=by
   by_cases h1:pt=0
   ·exact .inr (λh2=>hr ⟨h1,h2⟩)
   ·exact .inl h1
  clear hr
  obtain⟨x,hx⟩:∃x,aBz pt pn t n=x:=⟨_,rfl⟩
  rw[hx]at HE HF
  rw[hx]
  clear hx
  go_enter Tryz.func141,Tryz.ntmps141
  go_wp2_with fail
  refine lRz (by kernel_rfl) w.heap.size t n sq kd ot on pt pn nm p q l c m d _ rfl rfl H9.out (λW _=>root_any W) HR.out x (λW _=>HE.out W) ?_
  intro W hS
  have HS:Hid (Below w.heap.size w W):=(B0.out _).trans (hS.mono (B0.out _).size)
  clear hS
  simp only[abz,sA,sB,sC]
  go_wp2
  go_ret
  rw[HF.out]
  exact⟨rfl,HS.out⟩
theorem hxz (t n sq kd ot on pt pn:Int) (nm:List UInt8) (p q:Option Addr) (l c m d:Nat) (ns:List Int) (w:World) (hm:ns.length=m) (hl:ns.length≤1000000) (hd:ns.length≤d) (hq:Lies w q (ns.map iv)):
  Calls Tryz.prog 100 #[.agg #[.int .i64 t,.int .i64 n,.int .i64 sq,.int .i64 kd,.int .i64 ot,.int .i64 on,.int .i64 pt,.int .i64 pn,.string (bas nm),.slice p l c,.slice q m d]] w λe w'=>e=.returned (.bool (countB n sq ns))∧Below w.heap.size w w':=by
 have H9:Hid (OpB (w.alloc (.cells #[.int .i64 t,.int .i64 n,.int .i64 sq,.int .i64 kd,.int .i64 ot,.int .i64 on,.int .i64 pt,.int .i64 pn,.string (bas nm),.slice p l c,.slice q m d] 33)) w.heap.size t n sq kd ot on pt pn nm p q l c m d):=OpB.made w t n sq kd ot on pt pn nm p q l c m d
 have B0:Hid (∀o,Below w.heap.size w (w.alloc o)):=λo=>(a3z w o).out
 have HV:Hid (∀W,Below w.heap.size w W→Calls Tryz.prog 139 #[.slice q m d] W λe w'=>e=.returned (.bool (c5z ns))∧Below W.heap.size W w'):=λW hW=>by
  have:=i0z q ns d W hl hd (below_lies hW hq)
  rwa [hm]at this
 have HA:Hid (∀W,Below w.heap.size w W→Calls Tryz.prog 140 #[.slice q m d,.int .i64 n] W λe w'=>e=.returned (.int .i64 (Vc.atZ ns n))∧Below W.heap.size W w'):=λW hW=>by
  have:=Vc.at_any q ns d n W (below_lies hW hq)
  rw[hm]at this
  exact ebz this
 clear hm hl hd hq
 have HG:Hid (∀o W,Below (w.alloc o).heap.size (w.alloc o) W→Below w.heap.size w W):=λo W h=>(B0.out o).trans (h.mono (B0.out o).size)
 by_cases h1:1≤sq
 ·by_cases h2:sq≤1152921504606846976
  ·have HF:Hid (countB n sq ns=(c5z ns&&decide (Vc.atZ ns n=sq-1))):=by show _=_;simp[countB,h1,h2]
   have H1:=a0z h1
   have H2:=a0z h2
   cases hv:c5z ns with
   |true=>
    rw[hv]at HV HF
    obtain⟨z,hz⟩:∃z,Vc.atZ ns n=z:=⟨_,rfl⟩
    rw[hz]at HA HF
    clear hv hz h1 h2
    go_enter Tryz.func100,Tryz.ntmps100
    go_wp2_with fail
    refine nKz (by kernel_rfl) w.heap.size t n sq kd ot on pt pn nm p q l c m d _ rfl rfl H9.out H1.out H2.out z (λW hW=>HV.out W (HG.out _ W hW)) (λW hW=>HA.out W (HG.out _ W hW)) ?_
    intro W hS
    have HS:Hid (Below w.heap.size w W):=HG.out _ W hS
    clear hS
    simp only[abz,sA,sB,sC]
    go_wp2
    go_ret
    rw[HF.out]
    refine⟨?_,HS.out⟩
    rw[Bool.true_and]
    rfl
   |false=>
    rw[hv]at HV HF
    clear hv h1 h2
    go_enter Tryz.func100,Tryz.ntmps100
    go_wp2_with fail
    refine miz (by kernel_rfl) w.heap.size t n sq kd ot on pt pn nm p q l c m d _ rfl rfl H9.out H1.out H2.out (λW hW=>HV.out W (HG.out _ W hW)) ?_
    intro W hS
    have HS:Hid (Below w.heap.size w W):=HG.out _ W hS
    clear hS
    simp only[abz,sA,sB,sC]
    go_wp2
    go_ret
    rw[HF.out]
    exact⟨rfl,HS.out⟩
  ·have HF:Hid (countB n sq ns=false):=by show _=_;simp[countB,h2]
   have H1:=a0z h1
   have H2:=a0z h2
   clear h1 h2
   go_enter Tryz.func100,Tryz.ntmps100
   go_wp2_with fail
   refine lbz (by kernel_rfl) w.heap.size t n sq kd ot on pt pn nm p q l c m d _ rfl rfl H9.out (by have:=H1.out;omega) (by have:=H2.out;omega) ?_
   intro W hS
   have HS:Hid (Below w.heap.size w W):=HG.out _ W hS
   clear hS
   simp only[abz,sA,sB,sC]
   go_wp2
   go_ret
   rw[HF.out]
   exact⟨rfl,HS.out⟩
 ·have HF:Hid (countB n sq ns=false):=by show _=_;simp[countB,h1]
  have H1:=a0z h1
  clear h1
  go_enter Tryz.func100,Tryz.ntmps100
  go_wp2_with fail
  refine mRz (by kernel_rfl) w.heap.size t n sq kd ot on pt pn nm p q l c m d _ rfl rfl H9.out (by have:=H1.out;omega) ?_
  intro W hS
  have HS:Hid (Below w.heap.size w W):=HG.out _ W hS
  clear hS
  simp only[abz,sA,sB,sC]
  go_wp2
  go_ret
  rw[HF.out]
  exact⟨rfl,HS.out⟩
theorem sameB_true {a b x y:Int}:azz a b x y=true↔a=x∧b=y:=by simp[azz]
theorem rootB_true {a b:Int}:aGz a b=true↔a=0∧b=0:=by simp[aGz]
theorem trashB_true {a b:Int}:awz a b=true↔a=0∧b=1:=by simp[awz]
theorem gkz {a b x y:Int} (h:¬(a=x∧b=y)):¬a=x∨¬b=y:=by
 by_cases h1:a=x
 ·exact .inr (λh2=>h ⟨h1,h2⟩)
 ·exact .inl h1
theorem m0z (t n sq kd ot on pt pn:Int) (nm:List UInt8) (p q:Option Addr) (l c m d:Nat) (w:World) (hs:nm.length<1000000000000000) (hl:l<9000000000000000000):
  Calls Tryz.prog 101 #[.agg #[.int .i64 t,.int .i64 n,.int .i64 sq,.int .i64 kd,.int .i64 ot,.int .i64 on,.int .i64 pt,.int .i64 pn,.string (bas nm),.slice p l c,.slice q m d]] w λe w'=>e=.returned (.bool (kindB t n kd ot on pt pn nm l))∧Below w.heap.size w w':=by
 have H9:Hid (OpB (w.alloc (.cells #[.int .i64 t,.int .i64 n,.int .i64 sq,.int .i64 kd,.int .i64 ot,.int .i64 on,.int .i64 pt,.int .i64 pn,.string (bas nm),.slice p l c,.slice q m d] 33)) w.heap.size t n sq kd ot on pt pn nm p q l c m d):=OpB.made w t n sq kd ot on pt pn nm p q l c m d
 have B0:Hid (∀o,Below w.heap.size w (w.alloc o)):=λo=>(a3z w o).out
 have HG:Hid (∀o W,Below (w.alloc o).heap.size (w.alloc o) W→Below w.heap.size w W):=λo W h=>(B0.out o).trans (h.mono (B0.out o).size)
 have HE:Hid (∀W,Calls Tryz.prog 143 #[idv ot on,.agg #[.int .i64 t,.int .i64 n,.int .i64 sq,.int .i64 kd,.int .i64 ot,.int .i64 on,.int .i64 pt,.int .i64 pn,.string (bas nm),.slice p l c,.slice q m d]] W λe w'=>e=.returned (.bool (aBz ot on t n))∧Below W.heap.size W w'):=λW=>eqz ot on t n sq kd ot on pt pn nm p q l c m d W
 have HH:Hid (∀W,Calls Tryz.prog 141 #[.agg #[.int .i64 t,.int .i64 n,.int .i64 sq,.int .i64 kd,.int .i64 ot,.int .i64 on,.int .i64 pt,.int .i64 pn,.string (bas nm),.slice p l c,.slice q m d]] W λe w'=>e=.returned (.bool (aGz pt pn||aBz pt pn t n))∧Below W.heap.size W w'):=λW=>lXz t n sq kd ot on pt pn nm p q l c m d W
 have HP:Hid (∀W,Calls Tryz.prog 142 #[.agg #[.int .i64 t,.int .i64 n,.int .i64 sq,.int .i64 kd,.int .i64 ot,.int .i64 on,.int .i64 pt,.int .i64 pn,.string (bas nm),.slice p l c,.slice q m d]] W λe w'=>e=.returned (.bool (placedB nm l))∧Below W.heap.size W w'):=λW=>hNz t n sq kd ot on pt pn nm p q l c m d W hs
 have HK:Hid (∀W,OpB W w.heap.size t n sq kd ot on pt pn nm p q l c m d→W.cell? ⟨w.heap.size,0,none⟩=some (.int .i64 t)∧W.cell? ⟨w.heap.size,1,none⟩=some (.int .i64 n)∧W.cell? ⟨w.heap.size,2,none⟩=some (.int .i64 sq)∧W.cell? ⟨w.heap.size,3,none⟩=some (.int .i64 kd)∧W.cell? ⟨w.heap.size,4,none⟩=some (.int .i64 ot)∧W.cell? ⟨w.heap.size,5,none⟩=some (.int .i64 on)∧W.cell? ⟨w.heap.size,6,none⟩=some (.int .i64 pt)∧W.cell? ⟨w.heap.size,7,none⟩=some (.int .i64 pn)∧W.cell? ⟨w.heap.size,8,none⟩=some (.string (bas nm))∧W.cell? ⟨w.heap.size,9,none⟩=some (.slice p l c)∧W.cell? ⟨w.heap.size,10,none⟩=some (.slice q m d)):=λW h=>h.cells
 by_cases h12:kd=1∨kd=2
 ·have HF:Hid (kindB t n kd ot on pt pn nm l=(azz ot on t n&&(aGz pt pn||aBz pt pn t n)&&placedB nm l)):=by show _=_;unfold kindB;rw[if_pos h12]
  rw[HF.out]
  clear HF
  generalize (aGz pt pn||aBz pt pn t n)=x1 at*
  generalize placedB nm l=x2 at*
  by_cases hs1:ot=t∧on=n
  ·rw[sameB_true.2 hs1]
   obtain⟨rfl,rfl⟩:=hs1
   cases x1 with
   |true=>
    rcases h12 with rfl|rfl
    all_goals
     go_enter Tryz.func101,Tryz.ntmps101
     go_wp2_with (first|(go_at_call 141;refine acz (HH.out _) ?_;clear HH;intro w2 hb2;have⟨d0,d1,d2,d3,d4,d5,d6,d7,d8,d9,d10⟩:=HK.out _ (H9.out.below hb2.out))|(go_at_call 142;refine acz (HP.out _) ?_;clear HP;intro w3 hb3))
     go_ret
     exact⟨rfl,HG.out _ _ (hb2.out.trans (hb3.out.mono hb2.out.size))⟩
   |false=>
    rcases h12 with rfl|rfl
    all_goals
     go_enter Tryz.func101,Tryz.ntmps101
     go_wp2_with (first|(go_at_call 141;refine acz (HH.out _) ?_;clear HH;intro w2 hb2)|(go_at_call 142;refine acz (HP.out _) ?_;clear HP;intro w3 hb3))
     go_ret
     exact⟨rfl,HG.out _ _ hb2.out⟩
  ·have e1:azz ot on t n=false:=by
    cases h:azz ot on t n with
    |false=>rfl
    |true=>exact absurd (sameB_true.1 h) hs1
   rw[e1]
   have hn:=gkz hs1
   clear hs1 e1
   rcases h12 with rfl|rfl
   all_goals
    rcases hn with h|h
    all_goals
     go_enter Tryz.func101,Tryz.ntmps101
     go_wp2
     go_ret
     exact⟨rfl,B0.out _⟩
 ·have n1:¬kd=1:=λh=>h12 (.inl h)
  have n2:¬kd=2:=λh=>h12 (.inr h)
  by_cases h3:kd=3
  ·have HF:Hid (kindB t n kd ot on pt pn nm l=(aBz ot on t n&&(aGz pt pn||aBz pt pn t n||awz pt pn)&&placedB nm l)):=by show _=_;unfold kindB;rw[if_neg h12,if_pos h3]
   rw[HF.out]
   clear HF h12 n1 n2
   subst h3
   generalize aBz ot on t n=x0 at*
   generalize (aGz pt pn||aBz pt pn t n)=x1 at*
   generalize placedB nm l=x2 at*
   cases x0 with
   |false=>
    go_enter Tryz.func101,Tryz.ntmps101
    go_wp2_with fail
    refine n7z (by kernel_rfl) w.heap.size t n sq 3 ot on pt pn nm p q l c m d _ rfl rfl H9.out (λW _=>HE.out W) ?_
    intro W hS
    have HS:Hid (Below w.heap.size w W):=HG.out _ W hS
    clear hS
    simp only[abz,sA,sB,sC]
    go_wp2
    go_ret
    exact⟨rfl,HS.out⟩
   |true=>
    cases x1 with
    |true=>
     go_enter Tryz.func101,Tryz.ntmps101
     go_wp2_with fail
     refine jGz (by kernel_rfl) w.heap.size t n sq 3 ot on pt pn nm p q l c m d _ rfl rfl H9.out x2 (λW _=>HE.out W) (λW _=>HH.out W) (λW _=>HP.out W) ?_
     intro W hS
     have HS:Hid (Below w.heap.size w W):=HG.out _ W hS
     clear hS
     simp only[abz,sA,sB,sC]
     go_wp2
     go_ret
     exact⟨rfl,HS.out⟩
    |false=>
     by_cases hr:pt=0∧pn=1
     ·rw[trashB_true.2 hr]
      have HR:=a0z hr
      clear hr
      go_enter Tryz.func101,Tryz.ntmps101
      go_wp2_with fail
      refine isz (by kernel_rfl) w.heap.size t n sq 3 ot on pt pn nm p q l c m d _ rfl rfl H9.out x2 (λW _=>HE.out W) (λW _=>HH.out W) (λW _=>trash_any W) HR.out (λW _=>HP.out W) ?_
      intro W hS
      have HS:Hid (Below w.heap.size w W):=HG.out _ W hS
      clear hS
      simp only[abz,sA,sB,sC]
      go_wp2
      go_ret
      exact⟨rfl,HS.out⟩
     ·have e1:awz pt pn=false:=by
       cases h:awz pt pn with
       |false=>rfl
       |true=>exact absurd (trashB_true.1 h) hr
      rw[e1]
      have HR:Hid (¬pt=0∨¬pn=1):=gkz hr
      clear hr e1
      go_enter Tryz.func101,Tryz.ntmps101
      go_wp2_with fail
      refine guz (by kernel_rfl) w.heap.size t n sq 3 ot on pt pn nm p q l c m d _ rfl rfl H9.out (λW _=>HE.out W) (λW _=>HH.out W) (λW _=>trash_any W) HR.out ?_
      intro W hS
      have HS:Hid (Below w.heap.size w W):=HG.out _ W hS
      clear hS
      simp only[abz,sA,sB,sC]
      go_wp2
      go_ret
      exact⟨rfl,HS.out⟩
  ·by_cases h4:kd=4
   ·have HF:Hid (kindB t n kd ot on pt pn nm l=(aBz ot on t n&&aGz pt pn&&decide (nm=[])&&decide (l≤65536))):=by show _=_;unfold kindB;rw[if_neg h12,if_neg h3,if_pos h4]
    rw[HF.out]
    clear HF h12 h3 n1 n2
    subst h4
    generalize aBz ot on t n=x0 at*
    cases x0 with
    |false=>
     go_enter Tryz.func101,Tryz.ntmps101
     go_wp2_with (go_at_call 143;refine acz (HE.out _) ?_;clear HE;intro w2 hb2)
     go_ret
     exact⟨rfl,HG.out _ _ hb2.out⟩
    |true=>
     by_cases hr:pt=0∧pn=0
     ·rw[rootB_true.2 hr]
      obtain⟨rfl,rfl⟩:=hr
      by_cases hn:nm=[]
      ·subst hn
       have e0:bas []=⟨#[]⟩:=rfl
       by_cases h6:l≤65536
       ·have h6I:(l:Int)≤65536:=by omega
        rw[decide_eq_true h6]
        go_enter Tryz.func101,Tryz.ntmps101
        go_wp2_with (go_at_call 143;refine acz (HE.out _) ?_;clear HE;intro w2 hb2;have⟨d0,d1,d2,d3,d4,d5,d6,d7,d8,d9,d10⟩:=HK.out _ (H9.out.below hb2.out);clear HK H9)
        go_ret
        exact⟨rfl,HG.out _ _ hb2.out⟩
       ·have h6I:¬(l:Int)≤65536:=by omega
        rw[decide_eq_false h6]
        go_enter Tryz.func101,Tryz.ntmps101
        go_wp2_with (go_at_call 143;refine acz (HE.out _) ?_;clear HE;intro w2 hb2;have⟨d0,d1,d2,d3,d4,d5,d6,d7,d8,d9,d10⟩:=HK.out _ (H9.out.below hb2.out);clear HK H9)
        go_ret
        exact⟨by first|rfl|(simp;omega),HG.out _ _ hb2.out⟩
      ·have e1:(bas nm).toList.isEmpty=false:=by rw[aFz];simpa using hn
       rw[decide_eq_false hn]
       clear hn
       go_enter Tryz.func101,Tryz.ntmps101
       go_wp2_with (go_at_call 143;refine acz (HE.out _) ?_;clear HE;intro w2 hb2;have⟨d0,d1,d2,d3,d4,d5,d6,d7,d8,d9,d10⟩:=HK.out _ (H9.out.below hb2.out);clear HK H9)
       go_ret
       exact⟨rfl,HG.out _ _ hb2.out⟩
     ·have e1:aGz pt pn=false:=by
       cases h:aGz pt pn with
       |false=>rfl
       |true=>exact absurd (rootB_true.1 h) hr
      rw[e1]
      have hn:=gkz hr
      clear hr e1
      rcases hn with h|h
      all_goals
       go_enter Tryz.func101,Tryz.ntmps101
       go_wp2_with (go_at_call 143;refine acz (HE.out _) ?_;clear HE;intro w2 hb2;have⟨d0,d1,d2,d3,d4,d5,d6,d7,d8,d9,d10⟩:=HK.out _ (H9.out.below hb2.out);clear HK H9)
       go_ret
       exact⟨rfl,HG.out _ _ hb2.out⟩
   ·have HF:Hid (kindB t n kd ot on pt pn nm l=false):=by show _=_;unfold kindB;rw[if_neg h12,if_neg h3,if_neg h4]
    rw[HF.out]
    clear HF h12
    go_enter Tryz.func101,Tryz.ntmps101
    go_wp2
    go_ret
    exact⟨rfl,B0.out _⟩
theorem omay_any (t n sq kd ot on pt pn:Int) (nm:List UInt8) (p q:Option Addr) (l c m d:Nat) (ns:List Int) (w:World) (hs:nm.length<1000000000000000) (hl:l<9000000000000000000) (hm:ns.length=m) (hml:ns.length≤1000000) (hd:ns.length≤d) (hq:Lies w q (ns.map iv)):
  Calls Tryz.prog 67 #[.agg #[.int .i64 t,.int .i64 n,.int .i64 sq,.int .i64 kd,.int .i64 ot,.int .i64 on,.int .i64 pt,.int .i64 pn,.string (bas nm),.slice p l c,.slice q m d]] w λe w'=>e=.returned (.bool (mayO t n sq kd ot on pt pn nm l ns))∧Below w.heap.size w w':=by
 have H9:Hid (OpB (w.alloc (.cells #[.int .i64 t,.int .i64 n,.int .i64 sq,.int .i64 kd,.int .i64 ot,.int .i64 on,.int .i64 pt,.int .i64 pn,.string (bas nm),.slice p l c,.slice q m d] 33)) w.heap.size t n sq kd ot on pt pn nm p q l c m d):=OpB.made w t n sq kd ot on pt pn nm p q l c m d
 have B0:Hid (∀o,Below w.heap.size w (w.alloc o)):=λo=>(a3z w o).out
 have HG:Hid (∀o W,Below (w.alloc o).heap.size (w.alloc o) W→Below w.heap.size w W):=λo W h=>(B0.out o).trans (h.mono (B0.out o).size)
 have HK:Hid (∀W,OpB W w.heap.size t n sq kd ot on pt pn nm p q l c m d→W.cell? ⟨w.heap.size,0,none⟩=some (.int .i64 t)∧W.cell? ⟨w.heap.size,1,none⟩=some (.int .i64 n)∧W.cell? ⟨w.heap.size,2,none⟩=some (.int .i64 sq)∧W.cell? ⟨w.heap.size,3,none⟩=some (.int .i64 kd)∧W.cell? ⟨w.heap.size,4,none⟩=some (.int .i64 ot)∧W.cell? ⟨w.heap.size,5,none⟩=some (.int .i64 on)∧W.cell? ⟨w.heap.size,6,none⟩=some (.int .i64 pt)∧W.cell? ⟨w.heap.size,7,none⟩=some (.int .i64 pn)∧W.cell? ⟨w.heap.size,8,none⟩=some (.string (bas nm))∧W.cell? ⟨w.heap.size,9,none⟩=some (.slice p l c)∧W.cell? ⟨w.heap.size,10,none⟩=some (.slice q m d)):=λW h=>h.cells
 have c1:=λW=>Ck.valid_any t n W
 have HC:Hid (∀W,Below w.heap.size w W→Calls Tryz.prog 100 #[.agg #[.int .i64 t,.int .i64 n,.int .i64 sq,.int .i64 kd,.int .i64 ot,.int .i64 on,.int .i64 pt,.int .i64 pn,.string (bas nm),.slice p l c,.slice q m d]] W λe w'=>e=.returned (.bool (countB n sq ns))∧Below W.heap.size W w'):=λW hW=>hxz t n sq kd ot on pt pn nm p q l c m d ns W hm hml hd (below_lies hW hq)
 have HD:Hid (∀W,Calls Tryz.prog 101 #[.agg #[.int .i64 t,.int .i64 n,.int .i64 sq,.int .i64 kd,.int .i64 ot,.int .i64 on,.int .i64 pt,.int .i64 pn,.string (bas nm),.slice p l c,.slice q m d]] W λe w'=>e=.returned (.bool (kindB t n kd ot on pt pn nm l))∧Below W.heap.size W w'):=λW=>m0z t n sq kd ot on pt pn nm p q l c m d W hs hl
 unfold mayO
 clear hs hl hm hml hd hq
 generalize Ck.validB t n=x0 at*
 generalize countB n sq ns=x1 at*
 generalize kindB t n kd ot on pt pn nm l=x2 at*
 cases x0 with
 |false=>
  go_enter Tryz.func67,Tryz.ntmps67
  go_wp2_with (go_at_call 99;refine acz (c1 _) ?_;clear c1;intro w2 hb2)
  go_ret
  exact⟨rfl,HG.out _ _ hb2.out⟩
 |true=>
  cases x1 with
  |false=>
   go_enter Tryz.func67,Tryz.ntmps67
   go_wp2_with (first|(go_at_call 99;refine acz (c1 _) ?_;clear c1;intro w2 hb2;have⟨d0,d1,d2,d3,d4,d5,d6,d7,d8,d9,d10⟩:=HK.out _ (H9.out.below hb2.out))|(go_at_call 100;refine acz (HC.out _ (HG.out _ _ hb2.out)) ?_;clear HC;intro w3 hb3))
   go_ret
   exact⟨rfl,HG.out _ _ (hb2.out.trans (hb3.out.mono hb2.out.size))⟩
  |true=>
   go_enter Tryz.func67,Tryz.ntmps67
   go_wp2_with (first|(go_at_call 99;refine acz (c1 _) ?_;clear c1;intro w2 hb2;have⟨d0,d1,d2,d3,d4,d5,d6,d7,d8,d9,d10⟩:=HK.out _ (H9.out.below hb2.out))|(go_at_call 100;refine acz (HC.out _ (HG.out _ _ hb2.out)) ?_;clear HC;intro w3 hb3;have⟨g0,g1,g2,g3,g4,g5,g6,g7,g8,g9,g10⟩:=HK.out _ ((H9.out.below hb2.out).below hb3.out))|(go_at_call 101;refine acz (HD.out _) ?_;clear HD;intro w4 hb4))
   go_ret
   exact⟨rfl,HG.out _ _ ((hb2.out.trans (hb3.out.mono hb2.out.size)).trans (hb4.out.mono (Nat.le_trans hb2.out.size hb3.out.size)))⟩
end Go.Proofs.YthhakekbffembaaGreatDoor.Cd
