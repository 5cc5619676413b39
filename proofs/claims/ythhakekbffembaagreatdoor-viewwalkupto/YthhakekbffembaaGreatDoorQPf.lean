import Derived.Test.YthhakekbffembaaGreatDoorQPd
set_option maxRecDepth 8000
set_option maxHeartbeats 4000000

namespace Go.Proofs.YthhakekbffembaaGreatDoor.Ck.Y
open Go.RowKit Go.Maps Go.Lib
abbrev PL:=Option (PI×ByteArray)
def plA (bl:PI→Nat):PL→Value
 |some (p,_)=>pv (bl p)
 |none=>.pointer none
def plN:PL→ByteArray
 |some (_,nm)=>nm
 |none=>⟨#[]⟩
def ioz (bl:PI→Nat) (kv:PI→Value) (dr:PI→Bool) (pl:PL) (q:PI):Array Value:= #[plA bl pl,.string (plN pl),.int .i64 q.1,.int .i64 q.2,.bool (dr q),kv q]
structure KidsP (U:List PI) (pk:PI→PL) (q:PI) (m:List PI):Prop where
 rise:m.Pairwise avz
 mem:∀r,r∈m↔r∈U∧∃nm,pk r=some (q,nm)
theorem aYz (a:PI):¬avz a a:=λh=>etz h h
theorem KidsP.nodup {U:List PI} {pk:PI→PL} {q:PI} {m:List PI} (h:KidsP U pk q m):m.Nodup:=h.rise.imp λ{a b} hab=>by
 intro e
 rw[e]at hab
 exact aYz b hab
theorem hKz {α:Type} [DecidableEq α]:∀(l m:List α),l.Nodup→(∀x∈l,x∈m)→l.length≤m.length
 |[],_,_,_=>Nat.zero_le _
 |x::l,m,hn,hs=>by
  have h1:=List.nodup_cons.1 hn
  have:=hKz l (m.erase x) h1.2 (λy hy=>(List.mem_erase_of_ne (show y≠x from λe=>h1.1 (by rw[← e];exact hy))).2 (hs y (List.mem_cons_of_mem _ hy)))
  have hm:=hs x List.mem_cons_self
  rw[List.length_erase_of_mem hm]at this
  have:=List.length_pos_of_mem hm
  simp only[List.length_cons]
  omega
theorem KidsP.len {U:List PI} {pk:PI→PL} {q:PI} {m:List PI} (h:KidsP U pk q m):m.length≤U.length:=hKz m U h.nodup λx hx=>((h.mem x).1 hx).1
def b7z (f:PI→PL) (q:PI) (v:PL):PI→PL:=λr=>if r=q then v else f r
def dIz (f:PI→Value) (q:PI) (v:Value):PI→Value:=λr=>if r=q then v else f r
theorem aSz (f:PI→PL) (q:PI) (v:PL):b7z f q v q=v:=if_pos rfl
theorem bBz (f:PI→PL) {q r:PI} (v:PL) (h:r≠q):b7z f q v r=f r:=if_neg h
theorem bQz (f:PI→Value) (q:PI) (v:Value):dIz f q v q=v:=if_pos rfl
theorem crz (f:PI→Value) {q r:PI} (v:Value) (h:r≠q):dIz f q v r=f r:=if_neg h
theorem dpz (f:PI→PL) (q:PI) (u v:PL):b7z (b7z f q u) q v=b7z f q v:=by
 funext r
 by_cases h:r=q
 ·subst h;rw[aSz,aSz]
 ·rw[bBz _ _ h,bBz _ _ h,bBz _ _ h]
theorem fXz (f:PI→PL) (q:PI):b7z f q (f q)=f:=by
 funext r
 by_cases h:r=q
 ·subst h;rw[aSz]
 ·rw[bBz _ _ h]
def ajz (F:Nat→Prop) (w w':World):Nat→Prop:=λb=>F b∨(w.heap.size≤b∧b<w'.heap.size)
structure ObjsM (F:Nat→Prop) (w:World) (U:List PI) (bl:PI→Nat) (kv:PI→Value) (dr:PI→Bool) (pf pk:PI→PL):Prop where
 inj:∀q∈U,∀q'∈U,bl q=bl q'→q=q'
 obj:∀q∈U,w.heap[bl q]? =some (.cells (ioz bl kv dr (pf q) q) 131 (0,0))
 kid:∀q∈U,∃m,KidsP U pk q m∧RowP 125 w 0 (kv q) (m.map bl)
 apart:∀q∈U,∀q'∈U,q≠q'→∀g,(kv q).ownBlock=some g→(kv q').ownBlock≠some g
 own:∀q∈U,F (bl q)∧∀g,(kv q).ownBlock=some g→F g
 len:U.length≤900
section
variable {F:Nat→Prop} {w w':World} {U:List PI} {bl:PI→Nat} {kv:PI→Value} {dr:PI→Bool} {pf pk:PI→PL}
theorem ObjsM.kept {S:Nat→Prop} (h:ObjsM F w U bl kv dr pf pk) (ho:Only S w w') (hn:∀b,F b→¬S b):ObjsM F w' U bl kv dr pf pk:=
 ⟨h.inj,λq hq=>(ho.block _ (block_lt (h.obj q hq)) (hn _ (h.own q hq).1)).trans (h.obj q hq),λq hq=>by
  obtain⟨m,h1,h2⟩:=h.kid q hq
  exact⟨m,h1,h2.kept ho λb hb=>hn b ((h.own q hq).2 b hb)⟩,h.apart,h.own,h.len⟩
theorem ObjsM.mono {G:Nat→Prop} (h:ObjsM F w U bl kv dr pf pk) (hn:∀b,F b→G b):ObjsM G w U bl kv dr pf pk:=
 ⟨h.inj,h.obj,h.kid,h.apart,λq hq=>⟨hn _ (h.own q hq).1,λg hg=>hn g ((h.own q hq).2 g hg)⟩,h.len⟩
theorem ObjsM.below (h:ObjsM F w U bl kv dr pf pk) (hb:Below w.heap.size w w'):ObjsM F w' U bl kv dr pf pk:=h.kept (Below.only hb (λ_=>False)) λ_ _ f=>f
theorem ObjsM.cell (h:ObjsM F w U bl kv dr pf pk) {q:PI} (hq:q∈U) (k:Nat):w.cell? ⟨bl q,k,none⟩=(ioz bl kv dr (pf q) q)[k]? :=cellOf (h.obj q hq) k
theorem ObjsM.frozen (h:ObjsM F w U bl kv dr pf pk) {q:PI} (hq:q∈U) (k:Nat):w.frozen? ⟨bl q,k,none⟩=false:=aez (h.obj q hq) k
theorem ObjsM.row_ne (h:ObjsM F w U bl kv dr pf pk) {q r:PI} (hq:q∈U) (hr:r∈U) {g:Nat} (hg:(kv r).ownBlock=some g):bl q≠g:=by
 obtain⟨m,_,h2⟩:=h.kid r hr
 obtain⟨_,_,cur,ht⟩:=h2.tag hg
 exact aiz (h.obj q hq) ht (by decide)
theorem ObjsM.place (h:ObjsM F w U bl kv dr pf pk) {q:PI} (hq:q∈U) (v:PL):
  ObjsM F ((w.setCell ⟨bl q,0,none⟩ (plA bl v)).setCell ⟨bl q,1,none⟩ (.string (plN v))) U bl kv dr (b7z pf q v) pk∧Only (· =bl q) w ((w.setCell ⟨bl q,0,none⟩ (plA bl v)).setCell ⟨bl q,1,none⟩ (.string (plN v))):=by
 have hO:Only (· =bl q) w ((w.setCell ⟨bl q,0,none⟩ (plA bl v)).setCell ⟨bl q,1,none⟩ (.string (plN v))):=(Only.setCell (S:=(· =bl q)) w ⟨bl q,0,none⟩ _ rfl).next (Only.setCell (S:=(· =bl q)) _ ⟨bl q,1,none⟩ _ rfl)
 refine⟨⟨h.inj,λr hr=> ?_,λr hr=> ?_,h.apart,h.own,h.len⟩,hO⟩
 ·by_cases e:r=q
  ·subst e
   rw[aSz]
   exact a7z (k:=1) (a7z (k:=0) (h.obj r hr) _) _
  ·rw[bBz _ _ e]
   exact(hO.block _ (block_lt (h.obj r hr)) λe'=>e (h.inj r hr q hq e')).trans (h.obj r hr)
 ·obtain⟨m,h1,h2⟩:=h.kid r hr
  exact⟨m,h1,h2.kept hO λb hb e'=>h.row_ne hq hr hb e'.symm⟩
theorem ObjsM.rekid {pk':PI→PL} (h:ObjsM F w U bl kv dr pf pk) {p:PI} (hp:p∈U) {v:Value} {m:List PI} (hO:Only (λj=>(kv p).ownBlock=some j) w w') (hm:KidsP U pk' p m) (hr:RowP 125 w' 0 v (m.map bl)) (hk:∀r∈U,r≠p→∀m,KidsP U pk r m→KidsP U pk' r m) (hv:v.ownBlock=(kv p).ownBlock∨∃g,v.ownBlock=some g∧w.heap.size≤g) (hF:∀b,F b→b<w.heap.size):
  ObjsM (ajz F w w') (w'.setCell ⟨bl p,5,none⟩ v) U bl (dIz kv p v) dr pf pk'∧Only F w (w'.setCell ⟨bl p,5,none⟩ v):=by
 have hob:∀q∈U,w'.heap[bl q]? =some (.cells (ioz bl kv dr (pf q) q) 131 (0,0)):=λq hq=>(hO.block _ (block_lt (h.obj q hq)) λe=>h.row_ne hq hp e rfl).trans (h.obj q hq)
 have hvt:∀g,v.ownBlock=some g→∃cur,w'.heap[g]? =some (.cells cur 125 (0,0)):=λg hg=>(hr.tag hg).2.2
 have hO2:Only (· =bl p) w' (w'.setCell ⟨bl p,5,none⟩ v):=Only.setCell (S:=(· =bl p)) w' ⟨bl p,5,none⟩ _ rfl
 refine⟨⟨h.inj,λq hq=> ?_,λq hq=> ?_,λq hq q' hq' hne g hg=> ?_,λq hq=>⟨.inl (h.own q hq).1,λg hg=> ?_⟩,h.len⟩, ?_⟩
 ·by_cases e:q=p
  ·subst e
   have:=a7z (k:=5) (hob q hq) v
   rw[this]
   unfold ioz
   rw[bQz]
   rfl
  ·have:=(hO2.block _ (block_lt (hob q hq)) λe'=>e (h.inj q hq p hp e')).trans (hob q hq)
   rw[this]
   unfold ioz
   rw[crz _ _ e]
 ·by_cases e:q=p
  ·subst e
   refine⟨m,hm, ?_⟩
   rw[bQz]
   refine hr.kept hO2 λb hb e'=> ?_
   obtain⟨cur,ht⟩:=hvt b hb
   exact aiz (hob q hq) ht (by decide) e'.symm
  ·obtain⟨m',h1,h2⟩:=h.kid q hq
   refine⟨m',hk q hq e m' h1, ?_⟩
   rw[crz _ _ e]
   refine(h2.kept hO λb hb e'=>h.apart q hq p hp e b hb e').kept hO2 λb hb e'=> ?_
   exact h.row_ne hp hq hb e'.symm
 ·by_cases e:q=p
  ·subst e
   rw[bQz]at hg
   rw[crz _ _ (Ne.symm hne)]
   intro hg'
   rcases hv with hv|⟨g2,hv,hlt⟩
   ·rw[hv]at hg
    exact h.apart q hq q' hq' hne g hg hg'
   ·rw[hv]at hg;cases hg
    have:=hF _ ((h.own q' hq').2 _ hg')
    omega
  ·rw[crz _ _ e]at hg
   by_cases e2:q'=p
   ·subst e2
    rw[bQz]
    intro hg'
    rcases hv with hv|⟨g2,hv,hlt⟩
    ·rw[hv]at hg'
     exact h.apart q hq q' hq' hne g hg hg'
    ·rw[hv]at hg';cases hg'
     have:=hF _ ((h.own q hq).2 _ hg)
     omega
   ·rw[crz _ _ e2]
    exact h.apart q hq q' hq' hne g hg
 ·by_cases e:q=p
  ·subst e
   rw[bQz]at hg
   rcases hv with hv|⟨g2,hv,hlt⟩
   ·rw[hv]at hg
    exact .inl ((h.own q hq).2 g hg)
   ·rw[hv]at hg;cases hg
    exact .inr ⟨hlt,(hr.tag hv).2.1⟩
  ·rw[crz _ _ e]at hg
   exact .inl ((h.own q hq).2 g hg)
 ·refine Only.trans (S:=F) ⟨hO.os,hO.tape,hO.output,hO.size,λi hi hn=>hO.block i hi λe=>hn ((h.own p hp).2 i e)⟩ hO2 (λi hi=>.inl ?_)
  rw[hi]
  exact(h.own p hp).1
end
variable {U m:List PI} {pk:PI→PL} {q:PI} {i:Nat}
def kyU (U:List PI) (bl:PI→Nat) (b:Nat):PI:=(U.find? λr=>decide (bl r=b)).getD (0,0)
theorem b9z {bl:PI→Nat} (inj:∀q∈U,∀q'∈U,bl q=bl q'→q=q') {r:PI} (hr:r∈U):kyU U bl (bl r)=r:=by
 unfold kyU
 cases h:U.find? λq=>decide (bl q=bl r)with
 |none=>exact absurd (List.find?_eq_none.1 h r hr) (by simp)
 |some q=>
  have h1:=List.find?_some h
  exact inj q (List.mem_of_find?_eq_some h) r hr (by simpa using h1)
theorem KidsP.out {p:PI} (h:KidsP U pk p m) (hi:m[i]? =some q):KidsP U (b7z pk q none) p (m.take i++m.drop (i+1)):=by
 have hlt:=(List.getElem?_eq_some_iff.1 hi).1
 have hqi:=(List.getElem?_eq_some_iff.1 hi).2
 have hm:m=m.take i++q::m.drop (i+1):=by
  rw[← hqi,← List.drop_eq_getElem_cons hlt,List.take_append_drop]
 have hn:=h.nodup
 rw[hm]at hn
 have hr:=h.rise
 rw[hm]at hr
 have h1:=List.pairwise_append.1 hr
 have h2:=List.pairwise_cons.1 h1.2.1
 have n1:=List.nodup_append.1 hn
 have n2:=List.nodup_cons.1 n1.2.1
 refine⟨List.pairwise_append.2 ⟨h1.1,h2.2,λa ha b hb=>h1.2.2 a ha b (List.mem_cons_of_mem _ hb)⟩,λr=> ?_⟩
 have e:r∈m.take i++m.drop (i+1)↔r∈m∧r≠q:=by
  constructor
  ·intro hrm
   refine⟨?_,λe=> ?_⟩
   ·rw[hm]
    rcases List.mem_append.1 hrm with h|h
    ·exact List.mem_append.2 (.inl h)
    ·exact List.mem_append.2 (.inr (List.mem_cons_of_mem _ h))
   ·subst e
    rcases List.mem_append.1 hrm with h|h
    ·exact n1.2.2 r h r List.mem_cons_self rfl
    ·exact n2.1 h
  ·rintro⟨hr,hne⟩
   rw[hm]at hr
   rcases List.mem_append.1 hr with h|h
   ·exact List.mem_append.2 (.inl h)
   ·rcases List.mem_cons.1 h with h|h
    ·exact absurd h hne
    ·exact List.mem_append.2 (.inr h)
 rw[e,h.mem]
 constructor
 ·rintro⟨⟨hu,nm,hp⟩,hne⟩
  exact⟨hu,nm,by rw[bBz _ _ hne];exact hp⟩
 ·rintro⟨hu,nm,hp⟩
  by_cases hne:r=q
  ·subst hne;rw[aSz]at hp;cases hp
  ·rw[bBz _ _ hne]at hp;exact⟨⟨hu,nm,hp⟩,hne⟩
theorem KidsP.other {r:PI} (h:KidsP U pk r m) {v:PL} (h1:∀nm,pk q≠some (r,nm)) (h2:∀nm,v≠some (r,nm)):KidsP U (b7z pk q v) r m:=by
 refine⟨h.rise,λx=> ?_⟩
 rw[h.mem]
 by_cases e:x=q
 ·subst e
  rw[aSz]
  constructor
  ·rintro⟨_,nm,hp⟩;exact absurd hp (h1 nm)
  ·rintro⟨_,nm,hp⟩;exact absurd hp (h2 nm)
 ·rw[bBz _ _ e]
theorem KidsP.inn {p:PI} {nm:ByteArray} (h:KidsP U pk p m) (hq:q∈U) (h0:pk q=none) (h1:∀k x,k<i→m[k]? =some x→avz x q) (h2:∀k x,i≤k→m[k]? =some x→¬avz x q):KidsP U (b7z pk q (some (p,nm))) p (m.take i++q::m.drop i):=by
 have hnq:q∉m:=λhm=>by
  obtain⟨_,nm',e⟩:=(h.mem q).1 hm
  rw[h0]at e;cases e
 refine⟨fDz h.rise (λa ha=> ?_) (λa ha=> ?_),λr=> ?_⟩
 ·obtain⟨k,hk,e⟩:=List.getElem_of_mem ha
  rw[List.length_take]at hk
  refine h1 k a (by omega) ?_
  rw[List.getElem?_eq_getElem (by omega),← e,List.getElem_take]
 ·obtain⟨k,hk,e⟩:=List.getElem_of_mem ha
  rw[List.length_drop]at hk
  have hx:m[i+k]? =some a:=by rw[List.getElem?_eq_getElem (by omega),← e,List.getElem_drop]
  refine f7z (h2 (i+k) a (by omega) hx) λe=>hnq ?_
  have:a=q:=Prod.ext e.1 e.2
  rw[← this]
  exact List.mem_of_getElem? hx
 ·have e:r∈m.take i++q::m.drop i↔r=q∨r∈m:=by
   have:=(e7z m i q).mem_iff (a:=r)
   unfold bjz at this
   rw[this]
   simp[or_comm]
  rw[e]
  by_cases hr:r=q
  ·subst hr
   rw[aSz]
   exact⟨λ_=>⟨hq,nm,rfl⟩,λ_=>.inl rfl⟩
  ·rw[bBz _ _ hr,h.mem]
   simp[hr]
theorem AtK.found {bl:PI→Nat} (inj:∀q∈U,∀q'∈U,bl q=bl q'→q=q') (hs:m.Pairwise avz) (hu:∀x∈m,x∈U) (hq:q∈m) {r:Bool} (h:AtK (m.map bl) (kyU U bl) q i r):m[i]? =some q:=by
 obtain⟨k,hk,e⟩:=List.getElem_of_mem hq
 have hik:i≤k:=by
  by_cases hlt:k<i
  ·have:=h.lo k (bl q) hlt (by rw[List.getElem?_map,List.getElem?_eq_getElem hk,e];rfl)
   rw[b9z inj (hu q hq)]at this
   exact absurd this (aYz q)
  ·omega
 rcases Nat.lt_or_eq_of_le hik with hlt|rfl
 ·have hi:i<m.length:=by omega
  have h1:=List.pairwise_iff_getElem.1 hs i k hi hk hlt
  rw[e]at h1
  have:=h.hi i (bl m[i]) (Nat.le_refl _) (by rw[List.getElem?_map,List.getElem?_eq_getElem hi];rfl)
  rw[b9z inj (hu _ (List.getElem_mem hi))]at this
  exact absurd h1 this
 ·rw[List.getElem?_eq_getElem hk,e]
end Go.Proofs.YthhakekbffembaaGreatDoor.Ck.Y

namespace Go.Proofs.YthhakekbffembaaGreatDoor.Ck.Y
open Go.RowKit Go.Maps Go.Lib
variable {Q:Exit→Act→World→Prop} {base:Array Value} {dd:List Deferred} {ops:Array Oper}
theorem b1z {S:Nat→Prop} {w w':World} (h:Only S w w') {b k:Nat} {v:Value} (hc:w.cell? ⟨b,k,none⟩=some v) (hn:¬S b):w'.cell? ⟨b,k,none⟩=some v:=by
 have e:=h.block b (a4z hc) hn
 have:w'.cell? ⟨b,k,none⟩=w.cell? ⟨b,k,none⟩:=by simp[World.cell?,e]
 rw[this]
 exact hc
theorem m1z (hops:Tryz.f183.body.bind (alz 1)=some ops) (bb bx len cp i0:Nat) (r0:Bool) (p:Option Addr) (t n:Int) (w9:World) (hsz:base.size=14) (b0:base.getD 0 undef=pO bb) (b3:base.getD 3 undef=pO bx)
  (k5:w9.cell? ⟨bb,5,none⟩=some (.slice p len cp)) (x0:w9.cell? ⟨bx,0,none⟩=some (iV t)) (x1:w9.cell? ⟨bx,1,none⟩=some (iV n)) (cK:∀W,Below w9.heap.size w9 W→Calls Tryz.prog 202 #[.slice p len cp,idv t n,.func (.func 203) #[] #[]] W λe w'=>e=.returned (.tuple #[iV (i0:Nat),.bool r0])∧Below W.heap.size W w') (hQ:∀W,Below w9.heap.size w9 W→Q .normal ⟨abz base [(some 6,pO bb),(some 7,pO bb),(some 8,.pointer (some ⟨bb,5,none⟩)),(some 9,.slice p len cp),(some 10,.agg #[iV t,iV n]),(some 11,.tuple #[iV (i0:Nat),.bool r0]),(some 12,iV (i0:Nat)),(some 13,.bool r0),(some 4,iV (i0:Nat)),(some 5,.bool r0)],dd⟩ W):
  (Code.region 1 ops true).wp Tryz.prog Q ⟨base,dd⟩ w9:=by
 obtain rfl:=Option.some.inj ((show Tryz.f183.body.bind (alz 1)=some _ from rfl).symm.trans hops);clear hops
 refine rU (by kernel_rfl) 14 hsz (by kernel_rfl) rfl hQ λLL hLe b W Ii Oo a hS hcl ho hb hd ev kp yl=> ?_
 have vv3:aaz LL 3=.slice p len cp:=vL hLe rfl
 have vv4:aaz LL 4=.agg #[iV t,iV n]:=vL hLe rfl
 have vv5:aaz LL 5=.tuple #[iV (i0:Nat),.bool r0]:=vL hLe rfl
 have Vv:=aV hLe;have Ee:=aE hLe rfl ev
 have e0:=(kp 0 (by kernel_rfl)).trans b0
 have e3:=(kp 3 (by kernel_rfl)).trans b3
 have d5:=(hS.cell (p:=⟨bb,5,none⟩) (a4z k5)).trans k5
 have d0:=(hS.cell (p:=⟨bx,0,none⟩) (a4z x0)).trans x0
 have d1:=(hS.cell (p:=⟨bx,1,none⟩) (a4z x1)).trans x1
 simp only[AV,AE,Nat.zero_add,Nat.reduceAdd,and_true]at Vv Ee
 match Ii with
 |0|1|2|3|4|6|7|8|9=>simp only[qq]at ho;subst ho;have hd:=aD hd;simp only[AD,and_true]at hd;simp only[Vv];exact dV (by simp[execOp,go_sem,Ee,d0,d1,d5,e0,e3,hd]) hS
 |5=>
  simp only[qq]at ho;subst ho;have e9:=eD ev hd 3 9 vv3;have e10:=eD ev hd 4 10 vv4;rw[vv5]
  refine ayz rfl nofun (f:=202) (args:= #[.slice p len cp,.agg #[iV t,iV n],.func (.func 203) #[] #[]]) ?_ ?_
  ·simp[go_sem,e9,e10]
  ·exact(cK W hS).mono (λe w' h=>⟨h.1,hS.trans (h.2.mono hS.size)⟩)
 |k+10=>simp at ho
theorem kZz (hops:Tryz.f150.body.bind (alz 2)=some ops) (o u i0:Nat) (r0:Bool) (t n:Int) (w9:World) (hsz:base.size=88) (b0:base.getD 0 undef=pO o) (c0:w9.cell? ⟨o,0,none⟩=some (pO u)) (c2:w9.cell? ⟨o,2,none⟩=some (iV t)) (c3:w9.cell? ⟨o,3,none⟩=some (iV n)) (cK:∀W,Below w9.heap.size w9 W→Calls Tryz.prog 183 #[pO u,idv t n] W λe w'=>e=.returned (.tuple #[iV (i0:Nat),.bool r0])∧Below W.heap.size W w') (hQ:∀W,Below w9.heap.size w9 W→Q .normal ⟨abz base [(some 15,pO o),(some 16,pO o),(some 17,pO o),(some 18,pO o),(some 19,pO u),(some 20,pO o),(some 21,pO o),(some 22,.pointer (some ⟨o,2,none⟩)),(some 23,.agg #[iV t,iV n]),(some 24,.tuple #[iV (i0:Nat),.bool r0]),(some 14,.tuple #[iV (i0:Nat),.bool r0]),(some 25,iV (i0:Nat)),(some 26,.bool r0),(some 4,iV (i0:Nat)),(some 5,.bool r0)],dd⟩ W):
  (Code.region 2 ops true).wp Tryz.prog Q ⟨base,dd⟩ w9:=by
 obtain rfl:=Option.some.inj ((show Tryz.f150.body.bind (alz 2)=some _ from rfl).symm.trans hops);clear hops
 refine rU (by kernel_rfl) 88 hsz (by kernel_rfl) rfl hQ λLL hLe b W Ii Oo a hS hcl ho hb hd ev kp yl=> ?_
 have vv3:aaz LL 3=pO o:=vL hLe rfl
 have vv4:aaz LL 4=pO u:=vL hLe rfl
 have vv7:aaz LL 7=.pointer (some ⟨o,2,none⟩):=vL hLe rfl
 have vv8:aaz LL 8=.agg #[iV t,iV n]:=vL hLe rfl
 have vv9:aaz LL 9=.tuple #[iV (i0:Nat),.bool r0]:=vL hLe rfl
 have Vv:=aV hLe;have Ee:=aE hLe rfl ev
 have e0:=(kp 0 (by kernel_rfl)).trans b0
 simp only[AV,AE,Nat.zero_add,Nat.reduceAdd,and_true]at Vv Ee
 match Ii with
 |0|1|2|3|5|6|7|10|11|12|13|14=>simp only[qq]at ho;subst ho;have hd:=aD hd;simp only[AD,and_true]at hd;simp only[Vv];exact dV (by simp[execOp,go_sem,Ee,e0,hd]) hS
 |4=>simp only[qq]at ho;subst ho;have e18:=eD ev hd 3 18 vv3;have d0:=(hS.cell (p:=⟨o,0,none⟩) (a4z c0)).trans c0;rw[vv4];exact dV (by simp[execOp,go_sem,e18,d0]) hS
 |8=>simp only[qq]at ho;subst ho;have e22:=eD ev hd 7 22 vv7;have d2:=(hS.cell (p:=⟨o,2,none⟩) (a4z c2)).trans c2;have d3:=(hS.cell (p:=⟨o,3,none⟩) (a4z c3)).trans c3;rw[vv8];exact dV (by simp[execOp,go_sem,e22,d2,d3]) hS
 |9=>
  simp only[qq]at ho;subst ho;have e19:=eD ev hd 4 19 vv4;have e23:=eD ev hd 8 23 vv8;rw[vv9]
  refine ayz rfl nofun (f:=183) (args:= #[pO u,.agg #[iV t,iV n]]) ?_ ?_
  ·simp[go_sem,e19,e23]
  ·exact(cK W hS).mono (λe w' h=>⟨h.1,hS.trans (h.2.mono hS.size)⟩)
 |k+15=>simp at ho
theorem kTz (hops:Tryz.f150.body.bind (alz 6)=some ops) (o u i0:Nat) (r0:Bool) (t n:Int) (w9:World) (hsz:base.size=88) (b0:base.getD 0 undef=pO o) (c0:w9.cell? ⟨o,0,none⟩=some (pO u)) (c2:w9.cell? ⟨o,2,none⟩=some (iV t)) (c3:w9.cell? ⟨o,3,none⟩=some (iV n)) (cK:∀W,Below w9.heap.size w9 W→Calls Tryz.prog 183 #[pO u,idv t n] W λe w'=>e=.returned (.tuple #[iV (i0:Nat),.bool r0])∧Below W.heap.size W w') (hQ:∀W,Below w9.heap.size w9 W→Q .normal ⟨abz base [(some 57,pO o),(some 58,pO o),(some 59,pO o),(some 60,pO o),(some 61,pO u),(some 62,pO o),(some 63,pO o),(some 64,.pointer (some ⟨o,2,none⟩)),(some 65,.agg #[iV t,iV n]),(some 66,.tuple #[iV (i0:Nat),.bool r0]),(some 56,.tuple #[iV (i0:Nat),.bool r0]),(some 67,iV (i0:Nat)),(some 68,.bool r0),(some 6,iV (i0:Nat)),(some 7,.bool r0)],dd⟩ W):
  (Code.region 6 ops true).wp Tryz.prog Q ⟨base,dd⟩ w9:=by
 obtain rfl:=Option.some.inj ((show Tryz.f150.body.bind (alz 6)=some _ from rfl).symm.trans hops);clear hops
 refine rU (by kernel_rfl) 88 hsz (by kernel_rfl) rfl hQ λLL hLe b W Ii Oo a hS hcl ho hb hd ev kp yl=> ?_
 have vv3:aaz LL 3=pO o:=vL hLe rfl
 have vv4:aaz LL 4=pO u:=vL hLe rfl
 have vv7:aaz LL 7=.pointer (some ⟨o,2,none⟩):=vL hLe rfl
 have vv8:aaz LL 8=.agg #[iV t,iV n]:=vL hLe rfl
 have vv9:aaz LL 9=.tuple #[iV (i0:Nat),.bool r0]:=vL hLe rfl
 have Vv:=aV hLe;have Ee:=aE hLe rfl ev
 have e0:=(kp 0 (by kernel_rfl)).trans b0
 simp only[AV,AE,Nat.zero_add,Nat.reduceAdd,and_true]at Vv Ee
 match Ii with
 |0|1|2|3|5|6|7|10|11|12|13|14=>simp only[qq]at ho;subst ho;have hd:=aD hd;simp only[AD,and_true]at hd;simp only[Vv];exact dV (by simp[execOp,go_sem,Ee,e0,hd]) hS
 |4=>simp only[qq]at ho;subst ho;have e60:=eD ev hd 3 60 vv3;have d0:=(hS.cell (p:=⟨o,0,none⟩) (a4z c0)).trans c0;rw[vv4];exact dV (by simp[execOp,go_sem,e60,d0]) hS
 |8=>simp only[qq]at ho;subst ho;have e64:=eD ev hd 7 64 vv7;have d2:=(hS.cell (p:=⟨o,2,none⟩) (a4z c2)).trans c2;have d3:=(hS.cell (p:=⟨o,3,none⟩) (a4z c3)).trans c3;rw[vv8];exact dV (by simp[execOp,go_sem,e64,d2,d3]) hS
 |9=>
  simp only[qq]at ho;subst ho;have e61:=eD ev hd 4 61 vv4;have e65:=eD ev hd 8 65 vv8;rw[vv9]
  refine ayz rfl nofun (f:=183) (args:= #[pO u,.agg #[iV t,iV n]]) ?_ ?_
  ·simp[go_sem,e61,e65]
  ·exact(cK W hS).mono (λe w' h=>⟨h.1,hS.trans (h.2.mono hS.size)⟩)
 |k+15=>simp at ho
theorem l2z (hops:Tryz.f150.body.bind (alz 3)=some ops) (o u len cp at_:Nat) (p:Option Addr) (Post:Option Addr×Nat×Nat→World→Prop) (w9:World) (hsz:base.size=88) (b0:base.getD 0 undef=pO o) (b4:base.getD 4 undef=iV (at_:Nat)) (hou:o≠u) (hat:at_≤1000) (c0:w9.cell? ⟨o,0,none⟩=some (pO u)) (c5:w9.cell? ⟨u,5,none⟩=some (.slice p len cp)) (hc:Calls Tryz.prog 184 #[.slice p len cp,iV (at_:Nat),iV (at_+1:Nat)] w9.drew λe W'=>∃x,e=.returned (.slice x.1 x.2.1 x.2.2)∧Post x W') (hk:∀v W,Post v W→W.cell? ⟨o,0,none⟩=some (pO u)∧(W.cell? ⟨u,5,none⟩).isSome=true∧W.frozen? ⟨u,5,none⟩=false) (hQ:∀(g:(Option Addr×Nat×Nat)×World) (W:World),(Post g.1 g.2∧W=g.2.setCell ⟨u,5,none⟩ (.slice g.1.1 g.1.2.1 g.1.2.2))→Q .normal ⟨abz base ((λg:(Option Addr×Nat×Nat)×World=>([(some 27,pO o),(some 28,pO o),(some 29,pO o),(some 30,pO o),(some 31,pO u),(some 32,pO o),(some 33,pO o),(some 34,pO o),(some 35,pO o),(some 36,pO u),(some 37,pO u),(some 38,.pointer (some ⟨u,5,none⟩)),(some 39,.slice p len cp),(some 40,iV (at_:Nat)),(some 41,iV (at_:Nat)),(some 42,iV (at_+1:Nat)),(some 43,.slice g.1.1 g.1.2.1 g.1.2.2),(some 44,pO u),(some 45,.pointer (some ⟨u,5,none⟩)),(none,undef)]:List (Option Tmp×Value))) g),dd⟩ W):
  (Code.region 3 ops true).wp Tryz.prog Q ⟨base,dd⟩ w9:=by
 have hmix:=hmx
 have h2:=(show Tryz.f150.body.bind (alz 3)=some _ from rfl).symm.trans hops
 obtain rfl:=Option.some.inj h2
 clear h2 hops
 have keepU:∀(g:(Option Addr×Nat×Nat)×World) (b:Nat→Bool) (W:World),(if b 19=true then(Post g.1 g.2∧W=g.2.setCell ⟨u,5,none⟩ (.slice g.1.1 g.1.2.1 g.1.2.2))else if b 16=true then(Post g.1 g.2∧W=g.2)else W=w9.drew)→W.cell? ⟨o,0,none⟩=some (pO u):=by
  intro g b W hS
  split at hS
  ·obtain⟨hP,rfl⟩:=hS
   exact b1z (Only.setCell (S:=(· =u)) g.2 ⟨u,5,none⟩ (.slice g.1.1 g.1.2.1 g.1.2.2) rfl) (hk _ _ hP).1 hou
  ·split at hS
   ·obtain⟨hP,rfl⟩:=hS
    exact(hk _ _ hP).1
   ·rw[hS]
    exact c0
 have cK:∀(g:(Option Addr×Nat×Nat)×World) (W:World),W=w9.drew→Calls Tryz.prog 184 #[.slice p len cp,iV (at_:Nat),iV (at_+1:Nat)] W λe W'=>∃x,e=.returned (.slice x.1 x.2.1 x.2.2)∧Post x W':=λg W hW=>by rw[hW];exact hc
 obtain⟨LL,hLe⟩:=qG hQ
 have vv:=λg=>aV (congrFun hLe g)
 simp only[AV,Nat.zero_add,Nat.reduceAdd,and_true,forall_and]at vv
 obtain⟨vv0,vv1,vv2,vv3,vv4,vv5,vv6,vv7,vv8,vv9,vv10,vv11,vv12,vv13,vv14,vv15,vv16,vv17,vv18,vv19⟩:=vv
 refine axz hmix (by kernel_rfl) 88 hsz (by kernel_rfl) ((none,0,0),w9) LL (λg=>by rw[hLe];rfl) (λ(g:(Option Addr×Nat×Nat)×World) (b:Nat→Bool) (W:World)=>if b 19=true then(Post g.1 g.2∧W=g.2.setCell ⟨u,5,none⟩ (.slice g.1.1 g.1.2.1 g.1.2.2))else if b 16=true then(Post g.1 g.2∧W=g.2)else(W=w9.drew)) ?_ ?_ ?_
 ·simp only[Bool.false_eq_true,if_false]
 ·intro g b W io Oo a hS hcl ho hb hd ev kp yl
  have q16_12:b 16=true→b 12=true:=qH hcl 16 12 id
  have q19_16:b 19=true→b 16=true:=qH hcl 19 16 id
  have q19_12:b 19=true→b 12=true:=qH hcl 16 12 q19_16
  have q16_15:b 16=true→b 15=true:=qH hcl 16 15 id
  have q19_15:b 19=true→b 15=true:=qH hcl 16 15 q19_16
  have ch0:b 19=true→b 16=true:=λh=>hcl 19 _ rfl h ⟨16,.data⟩ (by simp) rfl
  have Vv:=aV (congrFun hLe g);have Ee:=aE (congrFun hLe g) rfl ev
  have e0:=(kp 0 (aqz (by kernel_rfl))).trans b0
  have e4:=(kp 4 (aqz (by kernel_rfl))).trans b4
  have hl:=keepU g b W hS
  simp only[AV,AE,Nat.zero_add,Nat.reduceAdd,and_true]at Vv Ee
  match io with
  |0|1|2|3|4|5|6|7|8|9|10|11|13|14|17|18=>simp only[qq]at ho;subst ho;have hd:=aD hd;simp only[AD,and_true]at hd;refine a9z rfl nofun ?_ ⟨g,λ_ _=>rfl,rfl,by simpa[did]using hS⟩;simp only[Vv];simp[execOp,go_sem,Ee,e0,e4,hd,hl]
  |12=>
   simp only[qq]at ho;subst ho;have e38:=eD ev hd 11 38 (vv11 g);have n16:=nF q16_12 hb;have n19:=nF q19_12 hb;have hW:W=w9.drew:=by simpa[n16,n19]using hS
   have hl:W.cell? ⟨u,5,none⟩=some (.slice p len cp):=by rw[hW];exact c5
   refine a9z rfl nofun (v:=.slice p len cp) (w':=W) ?_ ⟨g,λ_ _=>rfl,(vv12 g).symm,by simpa[did]using hS⟩
   ·simp[execOp,go_sem,e38,hl]
  |15=>
   simp only[qq]at ho;subst ho;have e41:=eD ev hd 14 41 (vv14 g);have n16:=nF q16_15 hb;have n19:=nF q19_15 hb
   refine a9z rfl nofun (v:=iV (at_+1:Nat)) (w':=W) ?_ ⟨g,λ_ _=>rfl,(vv15 g).symm,by simpa[did]using hS⟩
   ·(simp[execOp,go_sem,e41];rw[IntKind.wrap_i64];omega)
  |16=>
   simp only[qq]at ho;subst ho;have e39:=eD ev hd 12 39 (vv12 g);have e40:=eD ev hd 13 40 (vv13 g);have e42:=eD ev hd 15 42 (vv15 g);have n19:=nF q19_16 hb;have hS9:W=w9.drew:=by simpa[n19,hb]using hS
   refine aLz rfl nofun (f:=184) (args:= #[.slice p len cp,iV (at_:Nat),iV (at_+1:Nat)]) ?_ ?_
   ·simp[go_sem,e39,e40,e42]
   ·refine(cK g W hS9).mono ?_
    rintro e W' ⟨x,rfl,hP⟩
    refine⟨_,rfl,(x,W'), ?_,(vv16 (x,W')).symm, ?_⟩
    ·intro j hj
     match j,hj with
     |16,h=>exact absurd (h.symm.trans hb) (by decide)
     |j+20,_=>subst hLe;rfl
     |0,_|1,_|2,_|3,_|4,_|5,_|6,_|7,_|8,_|9,_|10,_|11,_|12,_|13,_|14,_|15,_|17,_|18,_|19,_=>subst hLe;rfl
    ·simpa[did,n19]using hP
  |19=>
   simp only[qq]at ho;subst ho;have p16:=hD hd 16;have e45:=eD ev hd 18 45 (vv18 g);have e43:=(ev 16 43 rfl p16).trans (vv16 g);have hS9:Post g.1 g.2∧W=g.2:=by simpa[hb,p16]using hS
   obtain⟨W',hr,hP⟩:=(⟨_,trivial,hS9.1,rfl⟩:∃W',True∧Post g.1 g.2∧W'=g.2.setCell ⟨u,5,none⟩ (.slice g.1.1 g.1.2.1 g.1.2.2))
   refine blz rfl nofun (w':=W') ?_ ⟨g,λ_ _=>rfl,(vv19 _).symm, ?_⟩
   ·(obtain⟨hP1,hP2⟩:=hP;obtain⟨c9,hc9⟩:=Option.isSome_iff_exists.1 (hk _ _ hP1).2.1;have f9:=(hk _ _ hP1).2.2;rw[hS9.2,hP2];simp[execOp,go_sem,e45,e43,hc9,f9])
   ·simpa[did]using hP
  |k+20=>simp at ho
 ·intro g b W hS hall
  have hl9:b 19=true:=hall 19 (by decide)
  subst hLe
  exact hQ g W (by simpa[hl9]using hS)
theorem maz (hops:Tryz.f150.body.bind (alz 7)=some ops) (o u len cp at_:Nat) (p:Option Addr) (Post:Option Addr×Nat×Nat→World→Prop) (w9:World) (hsz:base.size=88) (b0:base.getD 0 undef=pO o) (b6:base.getD 6 undef=iV (at_:Nat)) (hou:o≠u) (c0:w9.cell? ⟨o,0,none⟩=some (pO u)) (c5:w9.cell? ⟨u,5,none⟩=some (.slice p len cp)) (hc:Calls Tryz.prog 185 #[.slice p len cp,iV (at_:Nat),.slice (some ⟨w9.heap.size,0,none⟩) 1 1] (w9.drew.alloc (.cells #[pO o] 125)) λe W'=>∃x,e=.returned (.slice x.1 x.2.1 x.2.2)∧Post x W') (hk:∀v W,Post v W→W.cell? ⟨o,0,none⟩=some (pO u)∧(W.cell? ⟨u,5,none⟩).isSome=true∧W.frozen? ⟨u,5,none⟩=false) (hQ:∀(g:(Option Addr×Nat×Nat)×World) (W:World),(Post g.1 g.2∧W=g.2.setCell ⟨u,5,none⟩ (.slice g.1.1 g.1.2.1 g.1.2.2))→Q .normal ⟨abz base ((λg:(Option Addr×Nat×Nat)×World=>([(some 69,pO o),(some 70,pO o),(some 71,pO o),(some 72,pO o),(some 73,pO u),(some 74,pO o),(some 75,pO o),(some 76,pO o),(some 77,pO o),(some 78,pO u),(some 79,pO u),(some 80,.pointer (some ⟨u,5,none⟩)),(some 81,.slice p len cp),(some 82,iV (at_:Nat)),(some 83,pO o),(some 84,.slice (some ⟨w9.heap.size,0,none⟩) 1 1),(some 85,.slice g.1.1 g.1.2.1 g.1.2.2),(some 86,pO u),(some 87,.pointer (some ⟨u,5,none⟩)),(none,undef)]:List (Option Tmp×Value))) g),dd⟩ W):
  (Code.region 7 ops true).wp Tryz.prog Q ⟨base,dd⟩ w9:=by
 have hmix:=hmx
 have h2:=(show Tryz.f150.body.bind (alz 7)=some _ from rfl).symm.trans hops
 obtain rfl:=Option.some.inj h2
 clear h2 hops
 have hB1:Below w9.heap.size w9.drew (w9.drew.alloc (.cells #[pO o] 125)):=(Below.refl w9.heap.size w9.drew).alloc (Nat.le_refl _) _
 have c0b:(w9.drew.alloc (.cells #[pO o] 125)).cell? ⟨o,0,none⟩=some (pO u):=(hB1.cell (p:=⟨o,0,none⟩) (a4z c0)).trans c0
 have c5b:(w9.drew.alloc (.cells #[pO o] 125)).cell? ⟨u,5,none⟩=some (.slice p len cp):=(hB1.cell (p:=⟨u,5,none⟩) (a4z c5)).trans c5
 have keepU:∀(g:(Option Addr×Nat×Nat)×World) (b:Nat→Bool) (W:World),(if b 19=true then(Post g.1 g.2∧W=g.2.setCell ⟨u,5,none⟩ (.slice g.1.1 g.1.2.1 g.1.2.2))else if b 16=true then(Post g.1 g.2∧W=g.2)else if b 15=true then(W=w9.drew.alloc (.cells #[pO o] 125))else W=w9.drew)→W.cell? ⟨o,0,none⟩=some (pO u):=by
  intro g b W hS
  split at hS
  ·obtain⟨hP,rfl⟩:=hS
   exact b1z (Only.setCell (S:=(· =u)) g.2 ⟨u,5,none⟩ (.slice g.1.1 g.1.2.1 g.1.2.2) rfl) (hk _ _ hP).1 hou
  ·split at hS
   ·obtain⟨hP,rfl⟩:=hS
    exact(hk _ _ hP).1
   ·split at hS
    ·rw[hS];exact c0b
    ·rw[hS];exact c0
 have cK:∀(g:(Option Addr×Nat×Nat)×World) (W:World),W=w9.drew.alloc (.cells #[pO o] 125)→Calls Tryz.prog 185 #[.slice p len cp,iV (at_:Nat),.slice (some ⟨w9.heap.size,0,none⟩) 1 1] W λe W'=>∃x,e=.returned (.slice x.1 x.2.1 x.2.2)∧Post x W':=λg W hW=>by rw[hW];exact hc
 obtain⟨LL,hLe⟩:=qG hQ
 have vv:=λg=>aV (congrFun hLe g)
 simp only[AV,Nat.zero_add,Nat.reduceAdd,and_true,forall_and]at vv
 obtain⟨vv0,vv1,vv2,vv3,vv4,vv5,vv6,vv7,vv8,vv9,vv10,vv11,vv12,vv13,vv14,vv15,vv16,vv17,vv18,vv19⟩:=vv
 refine axz hmix (by kernel_rfl) 88 hsz (by kernel_rfl) ((none,0,0),w9) LL (λg=>by rw[hLe];rfl) (λ(g:(Option Addr×Nat×Nat)×World) (b:Nat→Bool) (W:World)=>if b 19=true then(Post g.1 g.2∧W=g.2.setCell ⟨u,5,none⟩ (.slice g.1.1 g.1.2.1 g.1.2.2))else if b 16=true then(Post g.1 g.2∧W=g.2)else if b 15=true then(W=w9.drew.alloc (.cells #[pO o] 125))else(W=w9.drew)) ?_ ?_ ?_
 ·simp only[Bool.false_eq_true,if_false]
 ·intro g b W io Oo a hS hcl ho hb hd ev kp yl
  have q16_12:b 16=true→b 12=true:=qH hcl 16 12 id
  have q19_16:b 19=true→b 16=true:=qH hcl 19 16 id
  have q19_12:b 19=true→b 12=true:=qH hcl 16 12 q19_16
  have q16_15:b 16=true→b 15=true:=qH hcl 16 15 id
  have q19_15:b 19=true→b 15=true:=qH hcl 16 15 q19_16
  have ch0:b 16=true→b 15=true:=λh=>hcl 16 _ rfl h ⟨15,.data⟩ (by simp) rfl
  have ch1:b 19=true→b 16=true:=λh=>hcl 19 _ rfl h ⟨16,.data⟩ (by simp) rfl
  have Vv:=aV (congrFun hLe g);have Ee:=aE (congrFun hLe g) rfl ev
  have e0:=(kp 0 (aqz (by kernel_rfl))).trans b0
  have e6:=(kp 6 (aqz (by kernel_rfl))).trans b6
  have hl:=keepU g b W hS
  simp only[AV,AE,Nat.zero_add,Nat.reduceAdd,and_true]at Vv Ee
  match io with
  |0|1|2|3|4|5|6|7|8|9|10|11|13|14|17|18=>simp only[qq]at ho;subst ho;have hd:=aD hd;simp only[AD,and_true]at hd;refine a9z rfl nofun ?_ ⟨g,λ_ _=>rfl,rfl,by simpa[did]using hS⟩;simp only[Vv];simp[execOp,go_sem,Ee,e0,e6,hd,hl]
  |12=>
   simp only[qq]at ho;subst ho;have e80:=eD ev hd 11 80 (vv11 g);have n16:=nF q16_12 hb;have n19:=nF q19_12 hb
   have hl:W.cell? ⟨u,5,none⟩=some (.slice p len cp):=by
    have hS2:if b 15=true then W=w9.drew.alloc (.cells #[pO o] 125)else W=w9.drew:=by simpa[n16,n19]using hS
    split at hS2
    ·rw[hS2];exact c5b
    ·rw[hS2];exact c5
   refine a9z rfl nofun (v:=.slice p len cp) (w':=W) ?_ ⟨g,λ_ _=>rfl,(vv12 g).symm,by simpa[did]using hS⟩
   ·simp[execOp,go_sem,e80,hl]
  |15=>
   simp only[qq]at ho;subst ho;have e83:=eD ev hd 14 83 (vv14 g);have n16:=nF q16_15 hb;have n19:=nF q19_15 hb;have hS9:W=w9.drew:=by simpa[n16,n19,hb]using hS
   obtain⟨W',hr,hP⟩:=(⟨_,trivial,rfl⟩:∃W',True∧W'=w9.drew.alloc (.cells #[pO o] 125))
   refine a9z rfl nofun (v:=.slice (some ⟨w9.heap.size,0,none⟩) 1 1) (w':=W') ?_ ⟨g, ?_,(vv15 _).symm, ?_⟩
   ·rw[hS9,hP];simp[execOp,go_sem,e83]
   ·exact λ_ _=>rfl
   ·simpa[did,n16,n19]using hP
  |16=>
   simp only[qq]at ho;subst ho;have p15:=hD hd 15;have e81:=eD ev hd 12 81 (vv12 g);have e82:=eD ev hd 13 82 (vv13 g);have e84:=(ev 15 84 rfl p15).trans (vv15 g);have n19:=nF q19_16 hb;have hS9:W=w9.drew.alloc (.cells #[pO o] 125):=by simpa[n19,hb,p15]using hS
   refine aLz rfl nofun (f:=185) (args:= #[.slice p len cp,iV (at_:Nat),.slice (some ⟨w9.heap.size,0,none⟩) 1 1]) ?_ ?_
   ·simp[go_sem,e81,e82,e84]
   ·refine(cK g W hS9).mono ?_
    rintro e W' ⟨x,rfl,hP⟩
    refine⟨_,rfl,(x,W'), ?_,(vv16 (x,W')).symm, ?_⟩
    ·intro j hj
     match j,hj with
     |16,h=>exact absurd (h.symm.trans hb) (by decide)
     |j+20,_=>subst hLe;rfl
     |0,_|1,_|2,_|3,_|4,_|5,_|6,_|7,_|8,_|9,_|10,_|11,_|12,_|13,_|14,_|15,_|17,_|18,_|19,_=>subst hLe;rfl
    ·simpa[did,n19]using hP
  |19=>
   simp only[qq]at ho;subst ho;have p16:=hD hd 16;have e87:=eD ev hd 18 87 (vv18 g);have e85:=(ev 16 85 rfl p16).trans (vv16 g);have hS9:Post g.1 g.2∧W=g.2:=by simpa[hb,p16]using hS
   obtain⟨W',hr,hP⟩:=(⟨_,trivial,hS9.1,rfl⟩:∃W',True∧Post g.1 g.2∧W'=g.2.setCell ⟨u,5,none⟩ (.slice g.1.1 g.1.2.1 g.1.2.2))
   refine blz rfl nofun (w':=W') ?_ ⟨g,λ_ _=>rfl,(vv19 _).symm, ?_⟩
   ·(obtain⟨hP1,hP2⟩:=hP;obtain⟨c9,hc9⟩:=Option.isSome_iff_exists.1 (hk _ _ hP1).2.1;have f9:=(hk _ _ hP1).2.2;rw[hS9.2,hP2];simp[execOp,go_sem,e87,e85,hc9,f9])
   ·simpa[did]using hP
  |k+20=>simp at ho
 ·intro g b W hS hall
  have hl9:b 19=true:=hall 19 (by decide)
  subst hLe
  exact hQ g W (by simpa[hl9]using hS)
section
variable {F:Nat→Prop} {w:World} {U:List PI} {bl:PI→Nat} {kv:PI→Value} {dr:PI→Bool} {pf pk:PI→PL}
theorem hkz (h:ObjsM F w U bl kv dr pf pk) {p:PI} {m:List PI} (hm:KidsP U pk p m) (hr:RowP 125 w 0 (kv p) (m.map bl)) (q:PI) {i:Nat} {r:Bool} (hat:AtK (m.map bl) (kyU U bl) q i r):
  ∀W,Below w.heap.size w W→Calls Tryz.prog 202 #[kv p,idv q.1 q.2,.func (.func 203) #[] #[]] W λe w'=>e=.returned (.tuple #[.int .i64 (i:Nat),.bool r])∧Below W.heap.size W w':=by
 intro W hW
 have h':=h.below hW
 have hr':=hr.below hW
 obtain⟨pp,c,e,hlc,hcm,hpp⟩:=hr'.form
 have hl:(m.map bl).length≤1001:=by rw[List.length_map];have:=hm.len;have:=h.len;omega
 have hs:(m.map bl).Pairwise λa b=>avz (kyU U bl a) (kyU U bl b):=by
  rw[List.pairwise_map]
  have hu:∀x∈m,x∈U:=λx hx=>((hm.mem x).1 hx).1
  exact List.Pairwise.imp_of_mem (λ{a b} ha hb hab=>by rw[b9z h.inj (hu a ha),b9z h.inj (hu b hb)];exact hab) hm.rise
 have hk:∀x∈m.map bl,W.cell? ⟨x,2,none⟩=some (.int .i64 (kyU U bl x).1)∧W.cell? ⟨x,3,none⟩=some (.int .i64 (kyU U bl x).2):=λx hx=>by
  obtain⟨y,hy,rfl⟩:=List.mem_map.1 hx
  have hu:=((hm.mem y).1 hy).1
  rw[b9z h.inj hu]
  exact⟨h'.cell hu 2,h'.cell hu 3⟩
 rw[e]
 rcases Nat.eq_zero_or_pos (m.map bl).length with h0|h0
 ·exact erz 0 c (m.map bl) (kyU U bl) q.1 q.2 i r hat W pp (λhh=>by omega) hs hl hlc (λj x hx=>by have:=(List.getElem?_eq_some_iff.1 hx).1;omega) hk
 ·obtain⟨g,rfl,hc⟩:=hpp h0
  exact erz g c (m.map bl) (kyU U bl) q.1 q.2 i r hat W _ (λ_=>rfl) hs hl hlc hc hk
theorem d3z (h:ObjsM F w U bl kv dr pf pk) {p:PI} (hp:p∈U) {m:List PI} (hm:KidsP U pk p m) (hr:RowP 125 w 0 (kv p) (m.map bl)) (q:PI) {i:Nat} {r:Bool} (hat:AtK (m.map bl) (kyU U bl) q i r):
  Calls Tryz.prog 183 #[.pointer (some ⟨bl p,0,none⟩),idv q.1 q.2] w λe w'=>e=.returned (.tuple #[.int .i64 (i:Nat),.bool r])∧Below w.heap.size w w':=by
 have c:=hkz h hm hr q hat
 obtain⟨pp,cp,e,_,_,_⟩:=hr.form
 have k5:=h.cell hp 5
 have k5':w.cell? ⟨bl p,5,none⟩=some (.slice pp (m.map bl).length cp):=by rw[k5,← e];rfl
 rw[e]at c
 obtain⟨q1,q2⟩:=q
 have hB1:Below w.heap.size w (w.alloc (.cells #[.int .i64 q1,.int .i64 q2] 28)):=(Below.refl w.heap.size w).alloc (Nat.le_refl _) _
 have HC:Hid ((w.alloc (.cells #[.int .i64 q1,.int .i64 q2] 28)).cell? ⟨bl p,5,none⟩=some (.slice pp (m.map bl).length cp)∧(w.alloc (.cells #[.int .i64 q1,.int .i64 q2] 28)).cell? ⟨w.heap.size,0,none⟩=some (.int .i64 q1)∧(w.alloc (.cells #[.int .i64 q1,.int .i64 q2] 28)).cell? ⟨w.heap.size,1,none⟩=some (.int .i64 q2)):=
  ⟨(hB1.cell (p:=⟨bl p,5,none⟩) (a4z k5')).trans k5',cellOf (heap_alloc_new w _) 0,cellOf (heap_alloc_new w _) 1⟩
 have HB:=a0z hB1
 have HK:=a0z c
 clear c k5 k5' hB1 h hm hr hat e
 generalize (m.map bl).length=len at*
 generalize bl p=u at*
 go_enter Tryz.func183,Tryz.ntmps183
 go_wp2_with fail
 refine m1z (by kernel_rfl) u w.heap.size len cp i r pp q1 q2 _ rfl rfl rfl HC.out.1 HC.out.2.1 HC.out.2.2 (λW hW=>HK.out W (HB.out.trans (hW.mono HB.out.size))) ?_
 intro W hS
 have HS:Hid (Below w.heap.size w W):=HB.out.trans (hS.mono HB.out.size)
 clear hS
 simp only[abz,sA,sB,sC]
 go_wp2_with fail
 go_ret2
 exact⟨rfl,HS.out⟩
theorem RowP.drewr {e:TypeId} {W:World} {v:Value} {L:List Nat} (h:RowP e W 0 v L):RowP e W.drew 0 v L:=h.below ⟨rfl,rfl,rfl,Nat.le_refl _,λ_ _=>rfl⟩
end
end Go.Proofs.YthhakekbffembaaGreatDoor.Ck.Y

namespace Go.Proofs.YthhakekbffembaaGreatDoor.Ck.Y
open Go.RowKit Go.Maps Go.Lib
variable {F:Nat→Prop} {w:World} {U:List PI} {bl:PI→Nat} {kv:PI→Value} {dr:PI→Bool} {pf:PI→PL} {q:PI}
theorem nRz (h:ObjsM F w U bl kv dr pf pf) (hF:∀b,F b→b<w.heap.size) (hq:q∈U) (hpf:pf q=none) {p2:PI} {nm2:ByteArray} (hp2:p2∈U) (hpq2:p2≠q):
  Calls Tryz.prog 150 #[.pointer (some ⟨bl q,0,none⟩),.agg #[.pointer (some ⟨bl p2,0,none⟩),.string nm2]] w λe w'=>e=.returned (.tuple #[])∧∃kv',ObjsM (ajz F w w') w' U bl kv' dr (b7z pf q (some (p2,nm2))) (b7z pf q (some (p2,nm2)))∧Only F w w':=by
 obtain⟨w1,hw1⟩:∃w1,w1=w.alloc (.cells #[.pointer (some ⟨bl p2,0,none⟩),.string nm2] 128):=⟨_,rfl⟩
 have hB1:Below w.heap.size w w1:=by rw[hw1];exact(Below.refl w.heap.size w).alloc (Nat.le_refl _) _
 have hbx:w1.heap[w.heap.size]? =some (.cells #[.pointer (some ⟨bl p2,0,none⟩),.string nm2] 128 (0,0)):=by rw[hw1];exact heap_alloc_new w _
 have hs1:w1.heap.size=w.heap.size+1:=by rw[hw1];simp
 have h1:ObjsM F w1 U bl kv dr pf pf:=h.below hB1
 have H1:Hid (ObjsM F w1 U bl kv dr pf pf∧Below w.heap.size w w1∧w1.heap[w.heap.size]? =some (.cells #[.pointer (some ⟨bl p2,0,none⟩),.string nm2] 128 (0,0))∧w1.heap.size=w.heap.size+1∧∀b,F b→b<w.heap.size):=⟨h1,hB1,hbx,hs1,hF⟩
 have HW:=a0z hw1
 have c0:w1.cell? ⟨bl q,0,none⟩=some (.pointer none):=by rw[h1.cell hq 0,hpf];rfl
 have hlq:bl q<w.heap.size:=hF _ (h.own q hq).1
 have hlu2:bl p2<w.heap.size:=hF _ (h.own p2 hp2).1
 have HA:Hid (ObjsM F w1 U bl kv dr pf (b7z pf q none)∧Only F w w1∧w1.heap[w.heap.size]? =some (.cells #[.pointer (some ⟨bl p2,0,none⟩),.string nm2] 128 (0,0))∧(∀b,F b→F b∨(w.heap.size+1≤b∧b<w1.heap.size))∧∀b,F b→b<w1.heap.size):=by
  rw[← hpf,fXz]
  refine⟨H1.out.1,Below.only H1.out.2.1 F,H1.out.2.2.1,λb hb=>.inl hb,λb hb=> ?_⟩
  have:=H1.out.2.2.2.2 b hb;have:=H1.out.2.1.size;omega
 clear h hF hB1 hbx hs1 h1
 rw[hw1]at HA c0
 clear hw1 HW
 generalize kv=kvA at HA H1
 have x0:(w.alloc (.cells #[.pointer (some ⟨bl p2,0,none⟩),.string nm2] 128)).cell? ⟨w.heap.size,0,none⟩=some (.pointer (some ⟨bl p2,0,none⟩)):=cellOf HA.out.2.2.1 0
 have x1:(w.alloc (.cells #[.pointer (some ⟨bl p2,0,none⟩),.string nm2] 128)).cell? ⟨w.heap.size,1,none⟩=some (.string nm2):=cellOf HA.out.2.2.1 1
 obtain⟨y0,hy0⟩:∃y0,(w.alloc (.cells #[.pointer (some ⟨bl p2,0,none⟩),.string nm2] 128)).cell? ⟨bl q,0,none⟩=some y0:=⟨_,HA.out.1.cell hq 0⟩
 obtain⟨y1,hy1⟩:∃y1,(w.alloc (.cells #[.pointer (some ⟨bl p2,0,none⟩),.string nm2] 128)).cell? ⟨bl q,1,none⟩=some y1:=⟨_,HA.out.1.cell hq 1⟩
 have f0:=HA.out.1.frozen hq 0
 have f1:=HA.out.1.frozen hq 1
 have hpl:=HA.out.1.place hq (some (p2,nm2))
 have HP:Hid (ObjsM F (((w.alloc (.cells #[.pointer (some ⟨bl p2,0,none⟩),.string nm2] 128)).setCell ⟨bl q,0,none⟩ (.pointer (some ⟨bl p2,0,none⟩))).setCell ⟨bl q,1,none⟩ (.string nm2)) U bl kvA dr (b7z pf q (some (p2,nm2))) (b7z pf q none)∧Only F (w.alloc (.cells #[.pointer (some ⟨bl p2,0,none⟩),.string nm2] 128)) (((w.alloc (.cells #[.pointer (some ⟨bl p2,0,none⟩),.string nm2] 128)).setCell ⟨bl q,0,none⟩ (.pointer (some ⟨bl p2,0,none⟩))).setCell ⟨bl q,1,none⟩ (.string nm2))∧(w.alloc (.cells #[.pointer (some ⟨bl p2,0,none⟩),.string nm2] 128)).heap.size≤(((w.alloc (.cells #[.pointer (some ⟨bl p2,0,none⟩),.string nm2] 128)).setCell ⟨bl q,0,none⟩ (.pointer (some ⟨bl p2,0,none⟩))).setCell ⟨bl q,1,none⟩ (.string nm2)).heap.size):=⟨hpl.1,⟨hpl.2.os,hpl.2.tape,hpl.2.output,hpl.2.size,λk hk hn=>hpl.2.block k hk (λe=>hn (by rw[e];exact(HA.out.1.own q hq).1))⟩,hpl.2.size⟩
 have hqb:bl q≠w.heap.size:=by omega
 have HLQ:=a0z hlq
 clear hlq
 clear hpl
 clear hy0
 have cB0:(((w.alloc (.cells #[.pointer (some ⟨bl p2,0,none⟩),.string nm2] 128)).setCell ⟨bl q,0,none⟩ (.pointer (some ⟨bl p2,0,none⟩))).setCell ⟨bl q,1,none⟩ (.string nm2)).cell? ⟨bl q,0,none⟩=some (.pointer (some ⟨bl p2,0,none⟩)):=by rw[HP.out.1.cell hq 0,aSz];rfl
 go_enter Tryz.func150,Tryz.ntmps150
 go_wp2_with fail
 generalize ((w.alloc (.cells #[.pointer (some ⟨bl p2,0,none⟩),.string nm2] 128)).setCell ⟨bl q,0,none⟩ (.pointer (some ⟨bl p2,0,none⟩))).setCell ⟨bl q,1,none⟩ (.string nm2)=wB at HP⊢
 have cB:wB.cell? ⟨bl q,0,none⟩=some (.pointer (some ⟨bl p2,0,none⟩)):=by rw[HP.out.1.cell hq 0,aSz];rfl
 clear x0 x1 hy1 f0 f1
 go_wp2_with fail
 obtain⟨m,hm,hr⟩:=HP.out.1.kid p2 hp2
 obtain⟨i,r,hat⟩:=AtK.exists (L:=m.map bl) (ky:=kyU U bl) q (by
  rw[List.pairwise_map]
  have hu:∀x∈m,x∈U:=λx hx=>((hm.mem x).1 hx).1
  exact List.Pairwise.imp_of_mem (λ{a b} ha hb hab=>by rw[b9z HP.out.1.inj (hu a ha),b9z HP.out.1.inj (hu b hb)];exact hab) hm.rise)
 have hml:m.length≤900:=by have:=hm.len;have:=HP.out.1.len;omega
 have hil:i≤m.length:=by have:=hat.le;rwa [List.length_map]at this
 have hou:bl q≠bl p2:=λe=>hpq2 (HP.out.1.inj q hq p2 hp2 e).symm
 have c2:wB.cell? ⟨bl q,2,none⟩=some (.int .i64 q.1):=HP.out.1.cell hq 2
 have c3:wB.cell? ⟨bl q,3,none⟩=some (.int .i64 q.2):=HP.out.1.cell hq 3
 refine kTz (by kernel_rfl) (bl q) (bl p2) i r q.1 q.2 _ rfl rfl cB c2 c3 (λW hW=>d3z (HP.out.1.below hW) hp2 hm (hr.below hW) q hat) ?_
 intro W6 hS6
 have h6:=HP.out.1.below hS6
 have hr6:=hr.below hS6
 obtain⟨pp,cp,e5,_,_,_⟩:=hr6.form
 have HB6:=a0z hS6
 simp only[abz,sA,sB,sC]
 go_wp2_with fail
 have c0b:W6.cell? ⟨bl q,0,none⟩=some (.pointer (some ⟨bl p2,0,none⟩)):=(hS6.cell (p:=⟨bl q,0,none⟩) (a4z cB)).trans cB
 have c5b:W6.cell? ⟨bl p2,5,none⟩=some (.slice pp (m.map bl).length cp):=by rw[h6.cell hp2 5,← e5];rfl
 have hB7:Below W6.heap.size W6 (W6.drew.alloc (.cells #[.pointer (some ⟨bl q,0,none⟩)] 125)):=chz ((Below.refl W6.heap.size W6.drew).alloc (Nat.le_refl _) _)
 have hFA6:∀b,F b→b<W6.heap.size:=λb hb=>by have:=HA.out.2.2.2.2 b hb;have:=HP.out.2.2;have:=hS6.size;omega
 have hin:=ekz 0 i W6.heap.size (kvA p2) (m.map bl) (bl q) (W6.drew.alloc (.cells #[.pointer (some ⟨bl q,0,none⟩)] 125)) (hr6.below hB7) (by rw[List.length_map];exact hil) (by rw[List.length_map];omega) (Nat.zero_le _) (heap_alloc_new W6.drew _) (λe=>by have:=hFA6 _ ((h6.own p2 hp2).2 _ e);omega)
 have hlist:(m.map bl).take i++bl q::(m.map bl).drop i=(m.take i++q::m.drop i).map bl:=by rw[List.map_append,List.map_take,List.map_cons,List.map_drop]
 rw[hlist]at hin
 have h7:=h6.below hB7
 refine maz (by kernel_rfl) (bl q) (bl p2) (m.map bl).length cp i pp (λx W=>RowP 125 W 0 (.slice x.1 x.2.1 x.2.2) ((m.take i++q::m.drop i).map bl)∧(W6.drew.alloc (.cells #[.pointer (some ⟨bl q,0,none⟩)] 125)).grownBy W (kvA p2).ownBlock∧((Value.slice x.1 x.2.1 x.2.2).ownBlock=(kvA p2).ownBlock∨(Value.slice x.1 x.2.1 x.2.2).ownBlock=some (W6.drew.alloc (.cells #[.pointer (some ⟨bl q,0,none⟩)] 125)).heap.size)) _ rfl rfl rfl hou c0b c5b ?_ ?_ ?_
 ·rw[← e5]
  refine hin.mono ?_
  rintro e W' ⟨v',rfl,hv1,hv2,hv3⟩
  obtain⟨p',c',rfl,_,_,_⟩:=hv1.form
  exact⟨(p',_,c'),rfl,hv1,hv2,hv3⟩
 ·rintro x W ⟨_,hg,_⟩
  have hO:=b5z hg
  have ho:=(hO.block _ (block_lt (h7.obj p2 hp2)) (λe=>h7.row_ne hp2 hp2 e rfl)).trans (h7.obj p2 hp2)
  have hq7:=h7.cell hq 0
  rw[aSz]at hq7
  exact⟨b1z hO hq7 (λe=>h7.row_ne hq hp2 e rfl),by rw[cellOf ho 5];rfl,aez ho 5⟩
 rintro⟨x,W8⟩ Wx ⟨⟨hv1,hg3,hv3⟩,rfl⟩
 have hF7:∀b,F b→b<(W6.drew.alloc (.cells #[.pointer (some ⟨bl q,0,none⟩)] 125)).heap.size:=λb hb=>by have:=hFA6 b hb;have:=hB7.size;omega
 have hkk:=hm.inn (nm:=nm2) hq (aSz pf q none) (λk x hk hx=>by
  have hu:=((hm.mem x).1 (List.mem_of_getElem? hx)).1
  have:=hat.lo k (bl x) hk (by rw[List.getElem?_map,hx];rfl)
  rwa [b9z HP.out.1.inj hu]at this) (λk x hk hx=>by
  have hu:=((hm.mem x).1 (List.mem_of_getElem? hx)).1
  have:=hat.hi k (bl x) hk (by rw[List.getElem?_map,hx];rfl)
  rwa [b9z HP.out.1.inj hu]at this)
 have hre:=h7.rekid hp2 (b5z hg3) hkk hv1 (λs hs hne m' hm'=>hm'.other (by rw[aSz];intro nm' e;cases e) (λnm' e=>by cases e;exact hne rfl)) (hv3.imp id (λe=>⟨_,e,Nat.le_refl _⟩)) hF7
 rw[dpz]at hre
 have HR:Hid (ObjsM (ajz F w (W8.setCell ⟨bl p2,5,none⟩ (.slice x.1 x.2.1 x.2.2))) (W8.setCell ⟨bl p2,5,none⟩ (.slice x.1 x.2.1 x.2.2)) U bl (dIz kvA p2 (.slice x.1 x.2.1 x.2.2)) dr (b7z pf q (some (p2,nm2))) (b7z pf q (some (p2,nm2)))∧Only F w (W8.setCell ⟨bl p2,5,none⟩ (.slice x.1 x.2.1 x.2.2))):=by
  have s1:(W6.drew.alloc (.cells #[.pointer (some ⟨bl q,0,none⟩)] 125)).heap.size≤W8.heap.size:=hg3.size
  have s2:=hB7.size
  have s3:=HB6.out.size
  have s4:=HP.out.2.2
  have s5:=HA.out.2.1.size
  refine⟨hre.1.mono (λb hb=> ?_), ?_⟩
  ·rcases hb with hb|hb
   ·rcases HA.out.2.2.2.1 b hb with hb|hb
    ·exact .inl hb
    ·exact .inr ⟨by omega,by simp;omega⟩
   ·exact .inr ⟨by omega,by simpa using hb.2⟩
  ·refine HA.out.2.1.trans (((HP.out.2.1.next (Below.only HB6.out F)).next (Below.only hB7 F)).next hre.2) (λb hb=> ?_)
   rcases HA.out.2.2.2.1 b hb with hb|hb
   ·exact .inl hb
   ·exact .inr (by omega)
 generalize W8.setCell ⟨bl p2,5,none⟩ (.slice x.1 x.2.1 x.2.2)=wC at HR⊢
 clear hre hkk hv1 hg3 hv3 hin hlist c0b c5b h6 h7 hr6 hF7 hFA6 HB6 hS6 e5 cB c2 c3 hat hr hm hil hml hou hB7
 simp only[abz,sA,sB,sC]
 go_wp2_with fail
 go_end0
 exact⟨rfl,_,HR.out.1,HR.out.2⟩
theorem ogz (h:ObjsM F w U bl kv dr pf pf) (hF:∀b,F b→b<w.heap.size) (hq:q∈U) {p:PI} {nm:ByteArray} (hpf:pf q=some (p,nm)) (hp:p∈U) (hpq:p≠q):
  Calls Tryz.prog 150 #[.pointer (some ⟨bl q,0,none⟩),.agg #[.pointer none,.string ⟨#[]⟩]] w λe w'=>e=.returned (.tuple #[])∧∃kv',ObjsM (ajz F w w') w' U bl kv' dr (b7z pf q (none)) (b7z pf q (none))∧Only F w w':=by
 obtain⟨w1,hw1⟩:∃w1,w1=w.alloc (.cells #[.pointer none,.string ⟨#[]⟩] 128):=⟨_,rfl⟩
 have hB1:Below w.heap.size w w1:=by rw[hw1];exact(Below.refl w.heap.size w).alloc (Nat.le_refl _) _
 have hbx:w1.heap[w.heap.size]? =some (.cells #[.pointer none,.string ⟨#[]⟩] 128 (0,0)):=by rw[hw1];exact heap_alloc_new w _
 have hs1:w1.heap.size=w.heap.size+1:=by rw[hw1];simp
 have h1:ObjsM F w1 U bl kv dr pf pf:=h.below hB1
 have H1:Hid (ObjsM F w1 U bl kv dr pf pf∧Below w.heap.size w w1∧w1.heap[w.heap.size]? =some (.cells #[.pointer none,.string ⟨#[]⟩] 128 (0,0))∧w1.heap.size=w.heap.size+1∧∀b,F b→b<w.heap.size):=⟨h1,hB1,hbx,hs1,hF⟩
 have HW:=a0z hw1
 have c0:w1.cell? ⟨bl q,0,none⟩=some (.pointer (some ⟨bl p,0,none⟩)):=by rw[h1.cell hq 0,hpf];rfl
 have hlq:bl q<w.heap.size:=hF _ (h.own q hq).1
 have cw0:=c0
 rw[hw1]at cw0
 clear h hF hw1 hB1 hbx hs1 h1
 go_enter Tryz.func150,Tryz.ntmps150
 go_wp2_with fail
 rw[← HW.out]
 clear HW cw0
 obtain⟨m,hm,hr⟩:=H1.out.1.kid p hp
 obtain⟨i,r,hat⟩:=AtK.exists (L:=m.map bl) (ky:=kyU U bl) q (by
  rw[List.pairwise_map]
  have hu:∀x∈m,x∈U:=λx hx=>((hm.mem x).1 hx).1
  exact List.Pairwise.imp_of_mem (λ{a b} ha hb hab=>by rw[b9z H1.out.1.inj (hu a ha),b9z H1.out.1.inj (hu b hb)];exact hab) hm.rise)
 have hqm:q∈m:=(hm.mem q).2 ⟨hq,nm,hpf⟩
 have hqi:m[i]? =some q:=hat.found H1.out.1.inj hm.rise (λx hx=>((hm.mem x).1 hx).1) hqm
 have hil:i<m.length:=(List.getElem?_eq_some_iff.1 hqi).1
 have hml:m.length≤900:=by have:=hm.len;have:=H1.out.1.len;omega
 have hou:bl q≠bl p:=λe=>hpq (H1.out.1.inj q hq p hp e).symm
 have c2:w1.cell? ⟨bl q,2,none⟩=some (.int .i64 q.1):=H1.out.1.cell hq 2
 have c3:w1.cell? ⟨bl q,3,none⟩=some (.int .i64 q.2):=H1.out.1.cell hq 3
 refine kZz (by kernel_rfl) (bl q) (bl p) i r q.1 q.2 _ rfl rfl c0 c2 c3 (λW hW=> ?_) ?_
 ·have hr':=hr.below hW
  exact d3z (H1.out.1.below hW) hp hm hr' q hat
 intro W2 hS2
 have h2:=H1.out.1.below hS2
 have hr2:=hr.below hS2
 obtain⟨pp,cp,e5,_,_,_⟩:=hr2.form
 have HB2:=a0z hS2
 simp only[abz,sA,sB,sC]
 go_wp2_with fail
 have c0b:W2.cell? ⟨bl q,0,none⟩=some (.pointer (some ⟨bl p,0,none⟩)):=(hS2.cell (p:=⟨bl q,0,none⟩) (a4z c0)).trans c0
 have c5b:W2.cell? ⟨bl p,5,none⟩=some (.slice pp (m.map bl).length cp):=by rw[h2.cell hp 5,← e5];rfl
 have hdl:=epz 0 i (i+1) (kv p) (m.map bl) W2.drew hr2.drewr rfl (by rw[List.length_map];exact hil) (by rw[List.length_map];omega)
 have hlist:(m.map bl).take i++(m.map bl).drop (i+1)=(m.take i++m.drop (i+1)).map bl:=by rw[List.map_append,List.map_take,List.map_drop]
 rw[hlist]at hdl
 refine l2z (by kernel_rfl) (bl q) (bl p) (m.map bl).length cp i pp (λx W=>RowP 125 W 0 (.slice x.1 x.2.1 x.2.2) ((m.take i++m.drop (i+1)).map bl)∧W2.grownBy W (kv p).ownBlock∧(Value.slice x.1 x.2.1 x.2.2).ownBlock=(kv p).ownBlock) _ rfl rfl rfl hou (by omega) c0b c5b ?_ ?_ ?_
 ·rw[← e5]
  refine hdl.mono ?_
  rintro e W' ⟨v',rfl,hv1,hv2,hv3⟩
  obtain⟨p',c',rfl,_,_,_⟩:=hv1.form
  exact⟨(p',_,c'),rfl,hv1,⟨hv2.os,hv2.tape,hv2.output,hv2.size,hv2.block⟩,hv3⟩
 ·rintro x W ⟨_,hg,_⟩
  have hO:=b5z hg
  have ho:=(hO.block _ (block_lt (h2.obj p hp)) (λe=>h2.row_ne hp hp e rfl)).trans (h2.obj p hp)
  exact⟨b1z hO c0b (λe=>h2.row_ne hq hp e rfl),by rw[cellOf ho 5];rfl,aez ho 5⟩
 rintro⟨x,W3⟩ Wx ⟨⟨hv1,hg3,hv3⟩,rfl⟩
 have hF2:∀b,F b→b<W2.heap.size:=λb hb=>by have:=H1.out.2.2.2.2 b hb;have:=H1.out.2.1.size;have:=hS2.size;omega
 have hre:=h2.rekid hp (b5z hg3) (hm.out hqi) hv1 (λs hs hne m' hm'=>hm'.other (by rw[hpf];intro nm' e;cases e;exact hne rfl) (λnm' e=>by cases e)) (.inl hv3) hF2
 have HA:Hid (ObjsM (ajz F W2 W3) (W3.setCell ⟨bl p,5,none⟩ (.slice x.1 x.2.1 x.2.2)) U bl (dIz kv p (.slice x.1 x.2.1 x.2.2)) dr pf (b7z pf q none)∧Only F w (W3.setCell ⟨bl p,5,none⟩ (.slice x.1 x.2.1 x.2.2))∧(W3.setCell ⟨bl p,5,none⟩ (.slice x.1 x.2.1 x.2.2)).heap[w.heap.size]? =some (.cells #[.pointer none,.string ⟨#[]⟩] 128 (0,0))∧(∀b,ajz F W2 W3 b→F b∨(w.heap.size+1≤b∧b<(W3.setCell ⟨bl p,5,none⟩ (.slice x.1 x.2.1 x.2.2)).heap.size))∧∀b,ajz F W2 W3 b→b<(W3.setCell ⟨bl p,5,none⟩ (.slice x.1 x.2.1 x.2.2)).heap.size):=by
  have hO2:Only F W2 _:=hre.2
  have hOw:Only F w W2:=(Below.only (H1.out.2.1.trans (HB2.out.mono H1.out.2.1.size)) F)
  have hbW2:=(HB2.out.block _ (block_lt H1.out.2.2.1)).trans H1.out.2.2.1
  have hs3:W2.heap.size≤W3.heap.size:=hg3.size
  have hs2:=HB2.out.size
  have hsz:=H1.out.2.2.2.1
  refine⟨hre.1,hOw.next hO2,(hO2.block _ (block_lt hbW2) (λhb=>by have:=H1.out.2.2.2.2 _ hb;omega)).trans hbW2,λb hb=> ?_,λb hb=> ?_⟩
  ·rcases hb with hb|hb
   ·exact .inl hb
   ·exact .inr ⟨by omega,by simpa using hb.2⟩
  ·rcases hb with hb|hb
   ·have:=hF2 b hb;simp;omega
   ·simpa using hb.2
 generalize W3.setCell ⟨bl p,5,none⟩ (.slice x.1 x.2.1 x.2.2)=wA at HA⊢
 generalize ajz F W2 W3=FA at HA
 generalize dIz kv p (.slice x.1 x.2.1 x.2.2)=kvA at HA
 clear hre hv1 hg3 hv3 hdl hlist c0b c5b h2 hr2 hF2 HB2 hS2 e5 c0 c2 c3 hat hqi hqm hr hm hil hml hou
 simp only[abz,sA,sB,sC]
 have x0:wA.cell? ⟨w.heap.size,0,none⟩=some (.pointer none):=cellOf HA.out.2.2.1 0
 have x1:wA.cell? ⟨w.heap.size,1,none⟩=some (.string ⟨#[]⟩):=cellOf HA.out.2.2.1 1
 obtain⟨y0,hy0⟩:∃y0,wA.cell? ⟨bl q,0,none⟩=some y0:=⟨_,HA.out.1.cell hq 0⟩
 obtain⟨y1,hy1⟩:∃y1,wA.cell? ⟨bl q,1,none⟩=some y1:=⟨_,HA.out.1.cell hq 1⟩
 have f0:=HA.out.1.frozen hq 0
 have f1:=HA.out.1.frozen hq 1
 have hpl:=HA.out.1.place hq (none)
 have HP:Hid (ObjsM FA ((wA.setCell ⟨bl q,0,none⟩ (.pointer none)).setCell ⟨bl q,1,none⟩ (.string ⟨#[]⟩)) U bl kvA dr (b7z pf q (none)) (b7z pf q none)∧Only FA wA ((wA.setCell ⟨bl q,0,none⟩ (.pointer none)).setCell ⟨bl q,1,none⟩ (.string ⟨#[]⟩))∧wA.heap.size≤((wA.setCell ⟨bl q,0,none⟩ (.pointer none)).setCell ⟨bl q,1,none⟩ (.string ⟨#[]⟩)).heap.size):=⟨hpl.1,⟨hpl.2.os,hpl.2.tape,hpl.2.output,hpl.2.size,λk hk hn=>hpl.2.block k hk (λe=>hn (by rw[e];exact(HA.out.1.own q hq).1))⟩,hpl.2.size⟩
 have hqb:bl q≠w.heap.size:=by omega
 clear hpl
 go_wp2_with fail
 generalize (wA.setCell ⟨bl q,0,none⟩ (.pointer none)).setCell ⟨bl q,1,none⟩ (.string ⟨#[]⟩)=wB at HP⊢
 have cB:wB.cell? ⟨bl q,0,none⟩=some (.pointer none):=by rw[HP.out.1.cell hq 0,aSz];rfl
 clear x0 x1 hy0 hy1 f0 f1
 go_wp2_with fail
 go_end0
 refine⟨rfl,kvA,HP.out.1.mono (λb hb=> ?_), ?_⟩
 ·rcases HA.out.2.2.2.1 b hb with hb|hb
  ·exact .inl hb
  ·refine .inr ⟨by omega, ?_⟩
   have:=HP.out.2.2;omega
 ·refine HA.out.2.1.trans HP.out.2.1 (λb hb=> ?_)
  rcases HA.out.2.2.2.1 b hb with hb|hb
  ·exact .inl hb
  ·exact .inr (by omega)
theorem kKz (h:ObjsM F w U bl kv dr pf pf) (hF:∀b,F b→b<w.heap.size) (hq:q∈U) {p:PI} {nm:ByteArray} (hpf:pf q=some (p,nm)) (hp:p∈U) (hpq:p≠q) {p2:PI} {nm2:ByteArray} (hp2:p2∈U) (hpq2:p2≠q):
  Calls Tryz.prog 150 #[.pointer (some ⟨bl q,0,none⟩),.agg #[.pointer (some ⟨bl p2,0,none⟩),.string nm2]] w λe w'=>e=.returned (.tuple #[])∧∃kv',ObjsM (ajz F w w') w' U bl kv' dr (b7z pf q (some (p2,nm2))) (b7z pf q (some (p2,nm2)))∧Only F w w':=by
 obtain⟨w1,hw1⟩:∃w1,w1=w.alloc (.cells #[.pointer (some ⟨bl p2,0,none⟩),.string nm2] 128):=⟨_,rfl⟩
 have hB1:Below w.heap.size w w1:=by rw[hw1];exact(Below.refl w.heap.size w).alloc (Nat.le_refl _) _
 have hbx:w1.heap[w.heap.size]? =some (.cells #[.pointer (some ⟨bl p2,0,none⟩),.string nm2] 128 (0,0)):=by rw[hw1];exact heap_alloc_new w _
 have hs1:w1.heap.size=w.heap.size+1:=by rw[hw1];simp
 have h1:ObjsM F w1 U bl kv dr pf pf:=h.below hB1
 have H1:Hid (ObjsM F w1 U bl kv dr pf pf∧Below w.heap.size w w1∧w1.heap[w.heap.size]? =some (.cells #[.pointer (some ⟨bl p2,0,none⟩),.string nm2] 128 (0,0))∧w1.heap.size=w.heap.size+1∧∀b,F b→b<w.heap.size):=⟨h1,hB1,hbx,hs1,hF⟩
 have HW:=a0z hw1
 have c0:w1.cell? ⟨bl q,0,none⟩=some (.pointer (some ⟨bl p,0,none⟩)):=by rw[h1.cell hq 0,hpf];rfl
 have hlq:bl q<w.heap.size:=hF _ (h.own q hq).1
 have hlu2:bl p2<w.heap.size:=hF _ (h.own p2 hp2).1
 have cw0:=c0
 rw[hw1]at cw0
 clear h hF hw1 hB1 hbx hs1 h1
 go_enter Tryz.func150,Tryz.ntmps150
 go_wp2_with fail
 rw[← HW.out]
 clear HW cw0
 obtain⟨m,hm,hr⟩:=H1.out.1.kid p hp
 obtain⟨i,r,hat⟩:=AtK.exists (L:=m.map bl) (ky:=kyU U bl) q (by
  rw[List.pairwise_map]
  have hu:∀x∈m,x∈U:=λx hx=>((hm.mem x).1 hx).1
  exact List.Pairwise.imp_of_mem (λ{a b} ha hb hab=>by rw[b9z H1.out.1.inj (hu a ha),b9z H1.out.1.inj (hu b hb)];exact hab) hm.rise)
 have hqm:q∈m:=(hm.mem q).2 ⟨hq,nm,hpf⟩
 have hqi:m[i]? =some q:=hat.found H1.out.1.inj hm.rise (λx hx=>((hm.mem x).1 hx).1) hqm
 have hil:i<m.length:=(List.getElem?_eq_some_iff.1 hqi).1
 have hml:m.length≤900:=by have:=hm.len;have:=H1.out.1.len;omega
 have hou:bl q≠bl p:=λe=>hpq (H1.out.1.inj q hq p hp e).symm
 have c2:w1.cell? ⟨bl q,2,none⟩=some (.int .i64 q.1):=H1.out.1.cell hq 2
 have c3:w1.cell? ⟨bl q,3,none⟩=some (.int .i64 q.2):=H1.out.1.cell hq 3
 refine kZz (by kernel_rfl) (bl q) (bl p) i r q.1 q.2 _ rfl rfl c0 c2 c3 (λW hW=> ?_) ?_
 ·have hr':=hr.below hW
  exact d3z (H1.out.1.below hW) hp hm hr' q hat
 intro W2 hS2
 have h2:=H1.out.1.below hS2
 have hr2:=hr.below hS2
 obtain⟨pp,cp,e5,_,_,_⟩:=hr2.form
 have HB2:=a0z hS2
 simp only[abz,sA,sB,sC]
 go_wp2_with fail
 have c0b:W2.cell? ⟨bl q,0,none⟩=some (.pointer (some ⟨bl p,0,none⟩)):=(hS2.cell (p:=⟨bl q,0,none⟩) (a4z c0)).trans c0
 have c5b:W2.cell? ⟨bl p,5,none⟩=some (.slice pp (m.map bl).length cp):=by rw[h2.cell hp 5,← e5];rfl
 have hdl:=epz 0 i (i+1) (kv p) (m.map bl) W2.drew hr2.drewr rfl (by rw[List.length_map];exact hil) (by rw[List.length_map];omega)
 have hlist:(m.map bl).take i++(m.map bl).drop (i+1)=(m.take i++m.drop (i+1)).map bl:=by rw[List.map_append,List.map_take,List.map_drop]
 rw[hlist]at hdl
 refine l2z (by kernel_rfl) (bl q) (bl p) (m.map bl).length cp i pp (λx W=>RowP 125 W 0 (.slice x.1 x.2.1 x.2.2) ((m.take i++m.drop (i+1)).map bl)∧W2.grownBy W (kv p).ownBlock∧(Value.slice x.1 x.2.1 x.2.2).ownBlock=(kv p).ownBlock) _ rfl rfl rfl hou (by omega) c0b c5b ?_ ?_ ?_
 ·rw[← e5]
  refine hdl.mono ?_
  rintro e W' ⟨v',rfl,hv1,hv2,hv3⟩
  obtain⟨p',c',rfl,_,_,_⟩:=hv1.form
  exact⟨(p',_,c'),rfl,hv1,⟨hv2.os,hv2.tape,hv2.output,hv2.size,hv2.block⟩,hv3⟩
 ·rintro x W ⟨_,hg,_⟩
  have hO:=b5z hg
  have ho:=(hO.block _ (block_lt (h2.obj p hp)) (λe=>h2.row_ne hp hp e rfl)).trans (h2.obj p hp)
  exact⟨b1z hO c0b (λe=>h2.row_ne hq hp e rfl),by rw[cellOf ho 5];rfl,aez ho 5⟩
 rintro⟨x,W3⟩ Wx ⟨⟨hv1,hg3,hv3⟩,rfl⟩
 have hF2:∀b,F b→b<W2.heap.size:=λb hb=>by have:=H1.out.2.2.2.2 b hb;have:=H1.out.2.1.size;have:=hS2.size;omega
 have hre:=h2.rekid hp (b5z hg3) (hm.out hqi) hv1 (λs hs hne m' hm'=>hm'.other (by rw[hpf];intro nm' e;cases e;exact hne rfl) (λnm' e=>by cases e)) (.inl hv3) hF2
 have HA:Hid (ObjsM (ajz F W2 W3) (W3.setCell ⟨bl p,5,none⟩ (.slice x.1 x.2.1 x.2.2)) U bl (dIz kv p (.slice x.1 x.2.1 x.2.2)) dr pf (b7z pf q none)∧Only F w (W3.setCell ⟨bl p,5,none⟩ (.slice x.1 x.2.1 x.2.2))∧(W3.setCell ⟨bl p,5,none⟩ (.slice x.1 x.2.1 x.2.2)).heap[w.heap.size]? =some (.cells #[.pointer (some ⟨bl p2,0,none⟩),.string nm2] 128 (0,0))∧(∀b,ajz F W2 W3 b→F b∨(w.heap.size+1≤b∧b<(W3.setCell ⟨bl p,5,none⟩ (.slice x.1 x.2.1 x.2.2)).heap.size))∧∀b,ajz F W2 W3 b→b<(W3.setCell ⟨bl p,5,none⟩ (.slice x.1 x.2.1 x.2.2)).heap.size):=by
  have hO2:Only F W2 _:=hre.2
  have hOw:Only F w W2:=(Below.only (H1.out.2.1.trans (HB2.out.mono H1.out.2.1.size)) F)
  have hbW2:=(HB2.out.block _ (block_lt H1.out.2.2.1)).trans H1.out.2.2.1
  have hs3:W2.heap.size≤W3.heap.size:=hg3.size
  have hs2:=HB2.out.size
  have hsz:=H1.out.2.2.2.1
  refine⟨hre.1,hOw.next hO2,(hO2.block _ (block_lt hbW2) (λhb=>by have:=H1.out.2.2.2.2 _ hb;omega)).trans hbW2,λb hb=> ?_,λb hb=> ?_⟩
  ·rcases hb with hb|hb
   ·exact .inl hb
   ·exact .inr ⟨by omega,by simpa using hb.2⟩
  ·rcases hb with hb|hb
   ·have:=hF2 b hb;simp;omega
   ·simpa using hb.2
 generalize W3.setCell ⟨bl p,5,none⟩ (.slice x.1 x.2.1 x.2.2)=wA at HA⊢
 generalize ajz F W2 W3=FA at HA
 generalize dIz kv p (.slice x.1 x.2.1 x.2.2)=kvA at HA
 clear hre hv1 hg3 hv3 hdl hlist c0b c5b h2 hr2 hF2 HB2 hS2 e5 c0 c2 c3 hat hqi hqm hr hm hil hml hou
 simp only[abz,sA,sB,sC]
 have x0:wA.cell? ⟨w.heap.size,0,none⟩=some (.pointer (some ⟨bl p2,0,none⟩)):=cellOf HA.out.2.2.1 0
 have x1:wA.cell? ⟨w.heap.size,1,none⟩=some (.string nm2):=cellOf HA.out.2.2.1 1
 obtain⟨y0,hy0⟩:∃y0,wA.cell? ⟨bl q,0,none⟩=some y0:=⟨_,HA.out.1.cell hq 0⟩
 obtain⟨y1,hy1⟩:∃y1,wA.cell? ⟨bl q,1,none⟩=some y1:=⟨_,HA.out.1.cell hq 1⟩
 have f0:=HA.out.1.frozen hq 0
 have f1:=HA.out.1.frozen hq 1
 have hpl:=HA.out.1.place hq (some (p2,nm2))
 have HP:Hid (ObjsM FA ((wA.setCell ⟨bl q,0,none⟩ (.pointer (some ⟨bl p2,0,none⟩))).setCell ⟨bl q,1,none⟩ (.string nm2)) U bl kvA dr (b7z pf q (some (p2,nm2))) (b7z pf q none)∧Only FA wA ((wA.setCell ⟨bl q,0,none⟩ (.pointer (some ⟨bl p2,0,none⟩))).setCell ⟨bl q,1,none⟩ (.string nm2))∧wA.heap.size≤((wA.setCell ⟨bl q,0,none⟩ (.pointer (some ⟨bl p2,0,none⟩))).setCell ⟨bl q,1,none⟩ (.string nm2)).heap.size):=⟨hpl.1,⟨hpl.2.os,hpl.2.tape,hpl.2.output,hpl.2.size,λk hk hn=>hpl.2.block k hk (λe=>hn (by rw[e];exact(HA.out.1.own q hq).1))⟩,hpl.2.size⟩
 have hqb:bl q≠w.heap.size:=by omega
 clear hpl
 go_wp2_with fail
 generalize (wA.setCell ⟨bl q,0,none⟩ (.pointer (some ⟨bl p2,0,none⟩))).setCell ⟨bl q,1,none⟩ (.string nm2)=wB at HP⊢
 have cB:wB.cell? ⟨bl q,0,none⟩=some (.pointer (some ⟨bl p2,0,none⟩)):=by rw[HP.out.1.cell hq 0,aSz];rfl
 clear x0 x1 hy0 hy1 f0 f1
 go_wp2_with fail
 obtain⟨m,hm,hr⟩:=HP.out.1.kid p2 hp2
 obtain⟨i,r,hat⟩:=AtK.exists (L:=m.map bl) (ky:=kyU U bl) q (by
  rw[List.pairwise_map]
  have hu:∀x∈m,x∈U:=λx hx=>((hm.mem x).1 hx).1
  exact List.Pairwise.imp_of_mem (λ{a b} ha hb hab=>by rw[b9z HP.out.1.inj (hu a ha),b9z HP.out.1.inj (hu b hb)];exact hab) hm.rise)
 have hml:m.length≤900:=by have:=hm.len;have:=HP.out.1.len;omega
 have hil:i≤m.length:=by have:=hat.le;rwa [List.length_map]at this
 have hou:bl q≠bl p2:=λe=>hpq2 (HP.out.1.inj q hq p2 hp2 e).symm
 have c2:wB.cell? ⟨bl q,2,none⟩=some (.int .i64 q.1):=HP.out.1.cell hq 2
 have c3:wB.cell? ⟨bl q,3,none⟩=some (.int .i64 q.2):=HP.out.1.cell hq 3
 refine kTz (by kernel_rfl) (bl q) (bl p2) i r q.1 q.2 _ rfl rfl cB c2 c3 (λW hW=>d3z (HP.out.1.below hW) hp2 hm (hr.below hW) q hat) ?_
 intro W6 hS6
 have h6:=HP.out.1.below hS6
 have hr6:=hr.below hS6
 obtain⟨pp,cp,e5,_,_,_⟩:=hr6.form
 have HB6:=a0z hS6
 simp only[abz,sA,sB,sC]
 go_wp2_with fail
 have c0b:W6.cell? ⟨bl q,0,none⟩=some (.pointer (some ⟨bl p2,0,none⟩)):=(hS6.cell (p:=⟨bl q,0,none⟩) (a4z cB)).trans cB
 have c5b:W6.cell? ⟨bl p2,5,none⟩=some (.slice pp (m.map bl).length cp):=by rw[h6.cell hp2 5,← e5];rfl
 have hB7:Below W6.heap.size W6 (W6.drew.alloc (.cells #[.pointer (some ⟨bl q,0,none⟩)] 125)):=chz ((Below.refl W6.heap.size W6.drew).alloc (Nat.le_refl _) _)
 have hFA6:∀b,FA b→b<W6.heap.size:=λb hb=>by have:=HA.out.2.2.2.2 b hb;have:=HP.out.2.2;have:=hS6.size;omega
 have hin:=ekz 0 i W6.heap.size (kvA p2) (m.map bl) (bl q) (W6.drew.alloc (.cells #[.pointer (some ⟨bl q,0,none⟩)] 125)) (hr6.below hB7) (by rw[List.length_map];exact hil) (by rw[List.length_map];omega) (Nat.zero_le _) (heap_alloc_new W6.drew _) (λe=>by have:=hFA6 _ ((h6.own p2 hp2).2 _ e);omega)
 have hlist:(m.map bl).take i++bl q::(m.map bl).drop i=(m.take i++q::m.drop i).map bl:=by rw[List.map_append,List.map_take,List.map_cons,List.map_drop]
 rw[hlist]at hin
 have h7:=h6.below hB7
 refine maz (by kernel_rfl) (bl q) (bl p2) (m.map bl).length cp i pp (λx W=>RowP 125 W 0 (.slice x.1 x.2.1 x.2.2) ((m.take i++q::m.drop i).map bl)∧(W6.drew.alloc (.cells #[.pointer (some ⟨bl q,0,none⟩)] 125)).grownBy W (kvA p2).ownBlock∧((Value.slice x.1 x.2.1 x.2.2).ownBlock=(kvA p2).ownBlock∨(Value.slice x.1 x.2.1 x.2.2).ownBlock=some (W6.drew.alloc (.cells #[.pointer (some ⟨bl q,0,none⟩)] 125)).heap.size)) _ rfl rfl rfl hou c0b c5b ?_ ?_ ?_
 ·rw[← e5]
  refine hin.mono ?_
  rintro e W' ⟨v',rfl,hv1,hv2,hv3⟩
  obtain⟨p',c',rfl,_,_,_⟩:=hv1.form
  exact⟨(p',_,c'),rfl,hv1,hv2,hv3⟩
 ·rintro x W ⟨_,hg,_⟩
  have hO:=b5z hg
  have ho:=(hO.block _ (block_lt (h7.obj p2 hp2)) (λe=>h7.row_ne hp2 hp2 e rfl)).trans (h7.obj p2 hp2)
  have hq7:=h7.cell hq 0
  rw[aSz]at hq7
  exact⟨b1z hO hq7 (λe=>h7.row_ne hq hp2 e rfl),by rw[cellOf ho 5];rfl,aez ho 5⟩
 rintro⟨x,W8⟩ Wx ⟨⟨hv1,hg3,hv3⟩,rfl⟩
 have hF7:∀b,FA b→b<(W6.drew.alloc (.cells #[.pointer (some ⟨bl q,0,none⟩)] 125)).heap.size:=λb hb=>by have:=hFA6 b hb;have:=hB7.size;omega
 have hkk:=hm.inn (nm:=nm2) hq (aSz pf q none) (λk x hk hx=>by
  have hu:=((hm.mem x).1 (List.mem_of_getElem? hx)).1
  have:=hat.lo k (bl x) hk (by rw[List.getElem?_map,hx];rfl)
  rwa [b9z HP.out.1.inj hu]at this) (λk x hk hx=>by
  have hu:=((hm.mem x).1 (List.mem_of_getElem? hx)).1
  have:=hat.hi k (bl x) hk (by rw[List.getElem?_map,hx];rfl)
  rwa [b9z HP.out.1.inj hu]at this)
 have hre:=h7.rekid hp2 (b5z hg3) hkk hv1 (λs hs hne m' hm'=>hm'.other (by rw[aSz];intro nm' e;cases e) (λnm' e=>by cases e;exact hne rfl)) (hv3.imp id (λe=>⟨_,e,Nat.le_refl _⟩)) hF7
 rw[dpz]at hre
 have HR:Hid (ObjsM (ajz F w (W8.setCell ⟨bl p2,5,none⟩ (.slice x.1 x.2.1 x.2.2))) (W8.setCell ⟨bl p2,5,none⟩ (.slice x.1 x.2.1 x.2.2)) U bl (dIz kvA p2 (.slice x.1 x.2.1 x.2.2)) dr (b7z pf q (some (p2,nm2))) (b7z pf q (some (p2,nm2)))∧Only F w (W8.setCell ⟨bl p2,5,none⟩ (.slice x.1 x.2.1 x.2.2))):=by
  have s1:(W6.drew.alloc (.cells #[.pointer (some ⟨bl q,0,none⟩)] 125)).heap.size≤W8.heap.size:=hg3.size
  have s2:=hB7.size
  have s3:=HB6.out.size
  have s4:=HP.out.2.2
  have s5:=HA.out.2.1.size
  refine⟨hre.1.mono (λb hb=> ?_), ?_⟩
  ·rcases hb with hb|hb
   ·rcases HA.out.2.2.2.1 b hb with hb|hb
    ·exact .inl hb
    ·exact .inr ⟨by omega,by simp;omega⟩
   ·exact .inr ⟨by omega,by simpa using hb.2⟩
  ·refine HA.out.2.1.trans (((HP.out.2.1.next (Below.only HB6.out FA)).next (Below.only hB7 FA)).next hre.2) (λb hb=> ?_)
   rcases HA.out.2.2.2.1 b hb with hb|hb
   ·exact .inl hb
   ·exact .inr (by omega)
 generalize W8.setCell ⟨bl p2,5,none⟩ (.slice x.1 x.2.1 x.2.2)=wC at HR⊢
 clear hre hkk hv1 hg3 hv3 hin hlist c0b c5b h6 h7 hr6 hF7 hFA6 HB6 hS6 e5 cB c2 c3 hat hr hm hil hml hou hB7
 simp only[abz,sA,sB,sC]
 go_wp2_with fail
 go_end0
 exact⟨rfl,_,HR.out.1,HR.out.2⟩
end Go.Proofs.YthhakekbffembaaGreatDoor.Ck.Y
