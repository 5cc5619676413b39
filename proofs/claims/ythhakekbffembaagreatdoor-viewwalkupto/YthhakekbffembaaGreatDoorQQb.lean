import Derived.Test.YthhakekbffembaaGreatDoorKQa

namespace Go.Proofs.YthhakekbffembaaGreatDoor.Ck.Y
open Go.RowKit Go.Maps
structure GE where
 o:OG
 came:Nat
def GE.q (e:GE):QE:=⟨e.o.t,e.o.n,0,e.came⟩
def GE.ok (e:GE):Prop:=e.q.ok
def gAz (e:GE):Nat:=mpz false e.q
theorem gnz {a b:GE} (ha:a.ok) (hb:b.ok):gAz a<gAz b↔lessB a.o.t a.o.n b.o.t b.o.n=true∨(lessB b.o.t b.o.n a.o.t a.o.n=false∧a.came<b.came):=by
 unfold gAz
 rw[n3z ha hb]
 simp[LB,GE.q]
def a8z (e:GE):OG:=e.o
def bwz (b:Nat):List OG→List GE
 |[]=>[]
 |x::l=>⟨x,b⟩::bwz (b+1) l
theorem cVz:∀(l:List OG) (b:Nat),(bwz b l).map a8z=l
 |[],_=>rfl
 |x::l,b=>by rw[bwz,List.map_cons,cVz l];rfl
theorem cvz:∀(l:List OG) (b:Nat),(bwz b l).length=l.length
 |[],_=>rfl
 |x::l,b=>by rw[bwz,List.length_cons,cvz l,List.length_cons]
theorem f3z:∀(l:List OG) (b:Nat) (x:OG),bwz b (l++[x])=bwz b l++[⟨x,b+l.length⟩]
 |[],_,_=>rfl
 |y::l,b,x=>by rw[List.cons_append,bwz,f3z l,bwz,List.cons_append,List.length_cons,show b+1+l.length=b+(l.length+1) by omega]
theorem dkz:∀(l:List OG) (b:Nat),∀e∈bwz b l,b≤e.came∧e.came<b+l.length
 |[],_,e,h=>by simp[bwz]at h
 |x::l,b,e,h=>by
  rw[bwz,List.mem_cons]at h
  rcases h with rfl|h
  ·simp
  ·have:=dkz l (b+1) e h
   simp only[List.length_cons]
   omega
def ghz (l:List OG):Prop:=∀x∈l,Rng x.t x.n
theorem gZz {l:List OG} (h:ghz l) (hl:l.length<1000000):∀e∈bwz 0 l,e.ok:=by
 have key:∀(l:List OG) (b:Nat),ghz l→∀e∈bwz b l,Rng e.o.t e.o.n:=by
  intro l
  induction l with
  |nil=>intro b _ e he;simp[bwz]at he
  |cons x l ih=>
   intro b hr e he
   rw[bwz,List.mem_cons]at he
   rcases he with rfl|he
   ·exact hr x (by simp)
   ·exact ih (b+1) (λy hy=>hr y (by simp[hy])) e he
 intro e he
 have:=dkz l 0 e he
 exact⟨key l 0 h e he,by show e.came<1000000;omega⟩
def fGz {α:Type} (key:α→Nat) (l:List α):Prop:=l.Pairwise λa b=>key a<key b
theorem koz {α:Type} {key:α→Nat} {l:List α} {x:α} {j:Nat} (h:fGz key l) (h1:∀a∈l.take j,key a<key x) (h2:∀a∈l.drop j,key x<key a):fGz key (l.take j++x::l.drop j):=by
 unfold fGz at*
 have h':=h
 rw[← List.take_append_drop j l,List.pairwise_append]at h'
 rw[List.pairwise_append]
 refine⟨h'.1,List.pairwise_cons.2 ⟨h2,h'.2.1⟩,λa ha b hb=> ?_⟩
 rcases List.mem_cons.1 hb with rfl|hb
 ·exact h1 a ha
 ·exact h'.2.2 a ha b hb
def bMz (l m:List OG):Prop:=∃P,m=P.map a8z∧P.Perm (bwz 0 l)∧fGz gAz P
theorem ecz {l m:List OG} (h:bMz l m):m.length=l.length:=by
 obtain⟨P,rfl,h1,_⟩:=h
 rw[List.length_map,h1.length_eq,cvz]
theorem fgz {l m:List OG} (h:bMz l m):m.Perm l:=by
 obtain⟨P,rfl,h1,_⟩:=h
 have:=h1.map a8z
 rwa [cVz]at this
end Go.Proofs.YthhakekbffembaaGreatDoor.Ck.Y

namespace Go.Proofs.YthhakekbffembaaGreatDoor.Ck.Y
open Go.RowKit Go.Maps
variable {t n:Int} {k:Nat} {a b:Int×Int}
structure OB where
 it:Int
 ii:Int
 pt:Int
 pn:Int
 nm:ByteArray
 dir:Bool
variable {T:List OB}
theorem sameB_iff {t' n':Int}:azz t n t' n'=true↔t=t'∧n=n':=by simp[azz]
theorem sameB_no {t' n':Int}:azz t n t' n'=false↔¬(t=t'∧n=n'):=by rw[← sameB_iff];simp
def aGz (t n:Int):Bool:=decide (t=0)&&decide (n=0)
def awz (t n:Int):Bool:=decide (t=0)&&decide (n=1)
def aoz (T:List OB) (t n:Int):Option Nat:=T.findIdx? λo=>azz o.it o.ii t n
theorem aCz (h:aoz T t n=some k):∃o,T[k]? =some o∧o.it=t∧o.ii=n:=by
 obtain⟨hk,h1,_⟩:=List.findIdx?_eq_some_iff_getElem.1 h
 exact⟨T[k],List.getElem?_eq_getElem hk,sameB_iff.1 h1⟩
theorem f2z (h:aoz T t n=none):∀o∈T,¬(o.it=t∧o.ii=n):=by
 intro o ho
 have:=(List.findIdx?_eq_none_iff.1 h) o ho
 exact sameB_no.1 this
def cfz (T:List OB):Prop:=T.Pairwise λa b=>¬(a.it=b.it∧a.ii=b.ii)
theorem cWz (ha:cfz T) {o:OB} (h:T[k]? =some o):aoz T o.it o.ii=some k:=by
 obtain⟨hk,e⟩:=List.getElem?_eq_some_iff.1 h
 refine List.findIdx?_eq_some_iff_getElem.2 ⟨hk,by rw[e];exact sameB_iff.2 ⟨rfl,rfl⟩,λj hj=> ?_⟩
 have:=(List.pairwise_iff_getElem.1 ha) j k (by omega) hk hj
 rw[e]at this
 simpa[azz]using this
def aAz (T:List OB) (t n:Int):Bool:=aGz t n||awz t n||(match aoz T t n with|some k=>(T[k]?.map (·.dir)).getD false|none=>false)
def upT (T:List OB) (a:Int×Int):Option (Int×Int):=(aoz T a.1 a.2).bind λk=>T[k]?.map λo=>(o.pt,o.pn)
theorem gTz (h:upT T a=some b):∃k o,aoz T a.1 a.2=some k∧T[k]? =some o∧o.it=a.1∧o.ii=a.2∧b=(o.pt,o.pn):=by
 unfold upT at h
 obtain⟨k,hk,h1⟩:=Option.bind_eq_some_iff.1 h
 obtain⟨o,ho,e1,e2⟩:=aCz hk
 rw[ho]at h1
 exact⟨k,o,hk,ho,e1,e2,by simpa using h1.symm⟩
theorem lcz {o:OB} (h:aoz T a.1 a.2=some k) (ho:T[k]? =some o):upT T a=some (o.pt,o.pn):=by
 unfold upT
 rw[h,Option.bind_some,ho]
 rfl
theorem lmz (h:aoz T a.1 a.2=none):upT T a=none:=by
 unfold upT
 rw[h]
 rfl
inductive Bel (T:List OB):Int×Int→Int×Int→Prop
 |one {a b:Int×Int}:upT T a=some b→Bel T a b
 |far {a b c:Int×Int}:upT T a=some c→Bel T c b→Bel T a b
theorem Bel.not (h:upT T a=none):¬Bel T a b:=by
 intro hb
 cases hb with
 |one h1=>rw[h]at h1;cases h1
 |far h1 _=>rw[h]at h1;cases h1
theorem Bel.next {c:Int×Int} (h:upT T a=some c) (hn:c≠b):Bel T a b↔Bel T c b:=by
 constructor
 ·intro hb
  cases hb with
  |one h1=>rw[h]at h1;cases h1;exact absurd rfl hn
  |far h1 h2=>rw[h]at h1;cases h1;exact h2
 ·exact λhb=>.far h hb
def Ranked (T:List OB):Prop:=∃r:Int×Int→Nat,∀a b,upT T a=some b→r b<r a
theorem Ranked.bel {r:Int×Int→Nat} (h:∀a b,upT T a=some b→r b<r a) (hb:Bel T a b):r b<r a:=by
 induction hb with
 |one h1=>exact h _ _ h1
 |far h1 _ ih=>have:=h _ _ h1;omega
theorem Ranked.self (h:Ranked T) (a:Int×Int):¬Bel T a a:=by
 obtain⟨r,hr⟩:=h
 intro hb
 have:=Ranked.bel hr hb
 omega
structure WfT (T:List OB):Prop where
 apart:cfz T
 rank:Ranked T
 own:∀o∈T,¬o.it=0
 home:∀o∈T,aAz T o.pt o.pn=true
theorem WfT.nil:WfT []:=⟨List.Pairwise.nil,⟨λ_=>0,λa b h=>by simp[upT,aoz]at h⟩,λo ho=>by simp at ho,λo ho=>by simp at ho⟩
def bFz (o:OG):OB:=⟨o.ot,o.on,o.pt,o.pn,o.nm,decide (o.kd=1)⟩
def aQz (o:OG) (b:OB):OB:=⟨b.it,b.ii,o.pt,o.pn,o.nm,b.dir⟩
inductive StepT (T:List OB) (s:Nat) (o:OG):List OB→Nat→Prop
 |make:(o.kd=1∨o.kd=2)→awz o.pt o.pn=false→aAz T o.pt o.pn=true→aoz T o.ot o.on=none→StepT T s o (T++[bFz o]) s
 |made:(o.kd=1∨o.kd=2)→(awz o.pt o.pn=true∨aAz T o.pt o.pn=false∨∃k,aoz T o.ot o.on=some k)→StepT T s o T (s+1)
 |move {k:Nat} {b:OB}:o.kd=3→aoz T o.ot o.on=some k→T[k]? =some b→aAz T o.pt o.pn=true→¬(o.pt=o.ot∧o.pn=o.on)→¬Bel T (o.pt,o.pn) (o.ot,o.on)→StepT T s o (T.set k (aQz o b)) s
 |moved:o.kd=3→(aoz T o.ot o.on=none∨aAz T o.pt o.pn=false∨(o.pt=o.ot∧o.pn=o.on)∨Bel T (o.pt,o.pn) (o.ot,o.on))→StepT T s o T (s+1)
 |other:¬(o.kd=1∨o.kd=2∨o.kd=3)→StepT T s o T s
theorem StepT.total (T:List OB) (s:Nat) (o:OG):∃T' s',StepT T s o T' s':=by
 by_cases h1:o.kd=1∨o.kd=2
 ·cases ht:awz o.pt o.pn with
  |true=>exact⟨_,_,.made h1 (.inl ht)⟩
  |false=>
   cases hd:aAz T o.pt o.pn with
   |false=>exact⟨_,_,.made h1 (.inr (.inl hd))⟩
   |true=>
    cases hf:aoz T o.ot o.on with
    |some k=>exact⟨_,_,.made h1 (.inr (.inr ⟨k,hf⟩))⟩
    |none=>exact⟨_,_,.make h1 ht hd hf⟩
 ·by_cases h3:o.kd=3
  ·cases hf:aoz T o.ot o.on with
   |none=>exact⟨_,_,.moved h3 (.inl hf)⟩
   |some k=>
    obtain⟨b,hb,_⟩:=aCz hf
    cases hd:aAz T o.pt o.pn with
    |false=>exact⟨_,_,.moved h3 (.inr (.inl hd))⟩
    |true=>
     by_cases hs:o.pt=o.ot∧o.pn=o.on
     ·exact⟨_,_,.moved h3 (.inr (.inr (.inl hs)))⟩
     ·by_cases hB:Bel T (o.pt,o.pn) (o.ot,o.on)
      ·exact⟨_,_,.moved h3 (.inr (.inr (.inr hB)))⟩
      ·exact⟨_,_,.move h3 hf hb hd hs hB⟩
  ·exact⟨_,_,.other (by omega)⟩
theorem StepT.unique {T1 T2:List OB} {s s1 s2:Nat} {o:OG} (h1:StepT T s o T1 s1) (h2:StepT T s o T2 s2):T1=T2∧s1=s2:=by
 cases h1 with
 |make a1 a2 a3 a4=>
  cases h2 with
  |make=>exact⟨rfl,rfl⟩
  |made _ b2=>
   rcases b2 with b2|b2|⟨k,b2⟩
   ·rw[a2]at b2;cases b2
   ·rw[a3]at b2;cases b2
   ·rw[a4]at b2;cases b2
  |move b1=>omega
  |moved b1=>omega
  |other b1=>omega
 |made a1 a2=>
  cases h2 with
  |make b1 b2 b3 b4=>
   rcases a2 with a2|a2|⟨k,a2⟩
   ·rw[b2]at a2;cases a2
   ·rw[b3]at a2;cases a2
   ·rw[b4]at a2;cases a2
  |made=>exact⟨rfl,rfl⟩
  |move b1=>omega
  |moved b1=>omega
  |other b1=>omega
 |move a1 a2 a3 a4 a5 a6=>
  cases h2 with
  |make b1=>omega
  |made b1=>omega
  |move b1 b2 b3=>
   rw[a2]at b2
   cases b2
   rw[a3]at b3
   cases b3
   exact⟨rfl,rfl⟩
  |moved _ b2=>
   rcases b2 with b2|b2|b2|b2
   ·rw[a2]at b2;cases b2
   ·rw[a4]at b2;cases b2
   ·exact absurd b2 a5
   ·exact absurd b2 a6
  |other b1=>omega
 |moved a1 a2=>
  cases h2 with
  |make b1=>omega
  |made b1=>omega
  |move b1 b2 b3 b4 b5 b6=>
   rcases a2 with a2|a2|a2|a2
   ·rw[b2]at a2;cases a2
   ·rw[b4]at a2;cases a2
   ·exact absurd a2 b5
   ·exact absurd a2 b6
  |moved=>exact⟨rfl,rfl⟩
  |other b1=>omega
 |other a1=>
  cases h2 with
  |make b1=>omega
  |made b1=>omega
  |move b1=>omega
  |moved b1=>omega
  |other=>exact⟨rfl,rfl⟩
inductive FoldT:List OB→Nat→List OG→List OB→Nat→Prop
 |nil (T:List OB) (s:Nat):FoldT T s [] T s
 |cons {T T1 T2:List OB} {s s1 s2:Nat} {o:OG} {l:List OG}:StepT T s o T1 s1→FoldT T1 s1 l T2 s2→FoldT T s (o::l) T2 s2
theorem FoldT.total:∀(l:List OG) (T:List OB) (s:Nat),∃T' s',FoldT T s l T' s'
 |[],T,s=>⟨T,s,.nil T s⟩
 |o::l,T,s=>by
  obtain⟨T1,s1,h1⟩:=StepT.total T s o
  obtain⟨T2,s2,h2⟩:=FoldT.total l T1 s1
  exact⟨T2,s2,.cons h1 h2⟩
theorem FoldT.unique:∀{l:List OG} {T T1 T2:List OB} {s s1 s2:Nat},FoldT T s l T1 s1→FoldT T s l T2 s2→T1=T2∧s1=s2
 |[],_,_,_,_,_,_,.nil _ _,.nil _ _=>⟨rfl,rfl⟩
 |_::_,_,_,_,_,_,_,.cons a1 a2,.cons b1 b2=>by
  obtain⟨rfl,rfl⟩:=a1.unique b1
  exact FoldT.unique a2 b2
theorem FoldT.snoc:∀{l:List OG} {T T1 T2:List OB} {s s1 s2:Nat} {o:OG},FoldT T s l T1 s1→StepT T1 s1 o T2 s2→FoldT T s (l++[o]) T2 s2
 |[],_,_,_,_,_,_,_,.nil _ _,h=>.cons h (.nil _ _)
 |_::_,_,_,_,_,_,_,_,.cons a1 a2,h=>.cons a1 (FoldT.snoc a2 h)
end Go.Proofs.YthhakekbffembaaGreatDoor.Ck.Y

namespace Go.Proofs.YthhakekbffembaaGreatDoor.Ck.Y
open Go.RowKit Go.Maps
variable {T:List OB} {k:Nat} {b b':OB}
def idp (o:OB):Int×Int:=(o.it,o.ii)
theorem fBz (T:List OB) (t n:Int):aoz T t n=(T.map idp).findIdx? λq=>azz q.1 q.2 t n:=by
 rw[List.findIdx?_map]
 rfl
theorem cCz (T:List OB) (x:OB) (t n:Int):aoz (T++[x]) t n=match aoz T t n with|some k=>some k|none=>if x.it=t∧x.ii=n then some T.length else none:=by
 unfold aoz
 rw[List.findIdx?_append]
 cases h:T.findIdx? (λo=>azz o.it o.ii t n)with
 |some k=>rfl
 |none=>
  by_cases hx:x.it=t∧x.ii=n
  ·obtain⟨rfl,rfl⟩:=hx
   have:azz x.it x.ii x.it x.ii=true:=sameB_iff.2 ⟨rfl,rfl⟩
   simp[List.findIdx?_cons,this]
  ·have:azz x.it x.ii t n=false:=sameB_no.2 hx
   simp[List.findIdx?_cons,this,hx]
theorem buz (hb:T[k]? =some b) (h:idp b'=idp b):(T.set k b').map idp=T.map idp:=by
 rw[List.map_set,h]
 have hk:=(List.getElem?_eq_some_iff.1 hb).1
 have e:idp b=(T.map idp)[k]'(by simpa using hk):=by
  rw[List.getElem_map,(List.getElem?_eq_some_iff.1 hb).2]
 rw[e,List.set_getElem_self]
theorem clz (hb:T[k]? =some b) (h:idp b'=idp b) (t n:Int):aoz (T.set k b') t n=aoz T t n:=by
 rw[fBz,fBz,buz hb h]
theorem apartT_ids:cfz T↔(T.map idp).Pairwise λa b=>¬(a.1=b.1∧a.2=b.2):=by
 unfold cfz
 rw[List.pairwise_map]
 rfl
theorem kSz (hb:T[k]? =some b) (h:idp b'=idp b) (hd:b'.dir=b.dir) (t n:Int):aAz (T.set k b') t n=aAz T t n:=by
 unfold aAz
 rw[clz hb h]
 cases aoz T t n with
 |none=>rfl
 |some j=>
  simp only
  by_cases hj:j=k
  ·subst hj
   have hk:=(List.getElem?_eq_some_iff.1 hb).1
   rw[List.getElem?_set_self hk,hb]
   simp[hd]
  ·rw[List.getElem?_set_ne (λe=>hj e.symm)]
theorem fKz {x:OB} {t n:Int} (h:aAz T t n=true):aAz (T++[x]) t n=true:=by
 unfold aAz at*
 rw[cCz]
 cases hf:aoz T t n with
 |none=>
  rw[hf]at h
  simp at h
  simp[h]
 |some k=>
  rw[hf]at h
  obtain⟨o,ho,_⟩:=aCz hf
  have hk:=(List.getElem?_eq_some_iff.1 ho).1
  simp only
  rw[List.getElem?_append_left hk]
  exact h
theorem hUz {t n:Int} (h:aAz T t n=true) (h0:¬t=0):∃k,aoz T t n=some k:=by
 unfold aAz at h
 cases hf:aoz T t n with
 |some k=>exact⟨k,rfl⟩
 |none=>
  rw[hf]at h
  simp[aGz,awz,h0]at h
theorem liz {x:OB} (hx:aoz T x.it x.ii=none) (c:Int×Int):upT (T++[x]) c=if c=idp x then some (x.pt,x.pn)else upT T c:=by
 unfold upT
 rw[cCz]
 by_cases hc:c=idp x
 ·subst hc
  have:aoz T (idp x).1 (idp x).2=none:=hx
  rw[this]
  simp[idp]
 ·rw[if_neg hc]
  cases hf:aoz T c.1 c.2 with
  |none=>
   have:¬(x.it=c.1∧x.ii=c.2):=λ⟨h1,h2⟩=>hc (Prod.ext h1.symm h2.symm)
   simp[this]
  |some k=>
   obtain⟨o,ho,_⟩:=aCz hf
   have hk:=(List.getElem?_eq_some_iff.1 ho).1
   simp only[Option.bind_some]
   rw[List.getElem?_append_left hk]
theorem naz (ha:cfz T) (hb:T[k]? =some b) (h:idp b'=idp b) (c:Int×Int):upT (T.set k b') c=if c=idp b then some (b'.pt,b'.pn)else upT T c:=by
 have hk:=(List.getElem?_eq_some_iff.1 hb).1
 unfold upT
 rw[clz hb h]
 by_cases hc:c=idp b
 ·rw[if_pos hc]
  subst hc
  have:aoz T (idp b).1 (idp b).2=some k:=cWz ha hb
  rw[this,Option.bind_some,List.getElem?_set_self hk]
  rfl
 ·rw[if_neg hc]
  cases hf:aoz T c.1 c.2 with
  |none=>rfl
  |some j=>
   simp only[Option.bind_some]
   have hj:j≠k:=by
    rintro rfl
    obtain⟨o,ho,e1,e2⟩:=aCz hf
    rw[hb]at ho
    cases ho
    exact hc (Prod.ext e1.symm e2.symm)
   rw[List.getElem?_set_ne (λe=>hj e.symm)]
theorem WfT.step {T':List OB} {s s':Nat} {o:OG} (h:WfT T) (hs:StepT T s o T' s') (h0:¬o.ot=0):WfT T':=by
 cases hs with
 |make a1 a2 a3 a4=>
  obtain⟨r,hr⟩:=h.rank
  refine⟨?_,⟨λc=>if c=(o.ot,o.on)then r (o.pt,o.pn)+1 else r c,λa b hab=> ?_⟩,λx hx=> ?_,λx hx=> ?_⟩
  ·unfold cfz
   rw[List.pairwise_append]
   refine⟨h.apart,by simp,λx hx y hy=> ?_⟩
   rw[List.mem_singleton.1 hy]
   exact f2z a4 x hx
  ·rw[liz (x:=bFz o) a4]at hab
   have hne:∀d,aAz T d.1 d.2=true→d≠(o.ot,o.on):=λd hd e=>by
    subst e
    obtain⟨k,hk⟩:=hUz hd h0
    have a4':aoz T o.ot o.on=none:=a4
    rw[a4']at hk
    cases hk
   by_cases hc:a=idp (bFz o)
   ·rw[if_pos hc]at hab
    have hb:b=(o.pt,o.pn):=(Option.some.inj hab).symm
    subst hb
    have:(o.pt,o.pn)≠(o.ot,o.on):=hne (o.pt,o.pn) a3
    simp only
    rw[if_neg this,if_pos (show a=(o.ot,o.on)from hc)]
    omega
   ·rw[if_neg hc]at hab
    have hlt:=hr a b hab
    obtain⟨k,x,hk,hx,_,_,hb⟩:=gTz hab
    have hd:=h.home x (List.mem_of_getElem? hx)
    have hbn:b≠(o.ot,o.on):=hne b (by rw[hb];exact hd)
    simp only
    rw[if_neg hbn,if_neg (show ¬a=(o.ot,o.on)from hc)]
    exact hlt
  ·rcases List.mem_append.1 hx with hx|hx
   ·exact h.own x hx
   ·rw[List.mem_singleton.1 hx];exact h0
  ·rcases List.mem_append.1 hx with hx|hx
   ·exact fKz (h.home x hx)
   ·rw[List.mem_singleton.1 hx];exact fKz a3
 |made=>exact h
 | @move k b a1 a2 a3 a4 a5 a6=>
  have hid:idp (aQz o b)=idp b:=rfl
  obtain⟨b',hb',e1,e2⟩:=aCz a2
  rw[a3]at hb'
  cases hb'
  obtain⟨r,hr⟩:=h.rank
  refine⟨?_, ?_,λx hx=> ?_,λx hx=> ?_⟩
  ·rw[apartT_ids,buz a3 hid,← apartT_ids]
   exact h.apart
  ·haveI:DecidablePred λc:Int×Int=>c=(o.ot,o.on)∨Bel T c (o.ot,o.on):=λ_=>Classical.propDecidable _
   refine⟨λc=>if c=(o.ot,o.on)∨Bel T c (o.ot,o.on)then r c+r (o.pt,o.pn)+1 else r c,λa d had=> ?_⟩
   rw[naz h.apart a3 hid]at had
   have hx:idp b=(o.ot,o.on):=Prod.ext e1 e2
   rw[hx]at had
   have hp:¬((o.pt,o.pn)=(o.ot,o.on)∨Bel T (o.pt,o.pn) (o.ot,o.on)):=λe=>by
    rcases e with e|e
    ·exact a5 (Prod.mk.inj e)
    ·exact a6 e
   by_cases hc:a=(o.ot,o.on)
   ·rw[if_pos hc]at had
    have hd:d=(o.pt,o.pn):=(Option.some.inj had).symm
    subst hd
    simp only
    rw[if_neg hp,if_pos (.inl hc)]
    omega
   ·rw[if_neg hc]at had
    have hlt:=hr a d had
    simp only
    by_cases hsd:d=(o.ot,o.on)∨Bel T d (o.ot,o.on)
    ·have hsa:a=(o.ot,o.on)∨Bel T a (o.ot,o.on):=by
      rcases hsd with e|e
      ·subst e;exact .inr (.one had)
      ·exact .inr (.far had e)
     rw[if_pos hsd,if_pos hsa]
     omega
    ·have hsa:¬(a=(o.ot,o.on)∨Bel T a (o.ot,o.on)):=λe=>by
      rcases e with e|e
      ·exact hc e
      ·cases e with
       |one h1=>rw[had]at h1;cases h1;exact hsd (.inl rfl)
       |far h1 h2=>rw[had]at h1;cases h1;exact hsd (.inr h2)
     rw[if_neg hsd,if_neg hsa]
     exact hlt
  ·rcases List.mem_or_eq_of_mem_set hx with hx|hx
   ·exact h.own x hx
   ·rw[hx];exact h.own b (List.mem_of_getElem? a3)
  ·rw[kSz a3 hid rfl]
   rcases List.mem_or_eq_of_mem_set hx with hx|hx
   ·exact h.home x hx
   ·rw[hx];exact a4
 |moved=>exact h
 |other=>exact h
theorem WfT.fold:∀{l:List OG} {T T':List OB} {s s':Nat},WfT T→FoldT T s l T' s'→(∀o∈l,¬o.ot=0)→WfT T'
 |[],_,_,_,_,h,.nil _ _,_=>h
 |_::_,_,_,_,_,h,.cons a1 a2,h0=>WfT.fold (h.step a1 (h0 _ (by simp))) a2 (λo ho=>h0 o (by simp[ho]))
theorem StepT.length {T':List OB} {s s':Nat} {o:OG} (h:StepT T s o T' s'):T.length≤T'.length∧T'.length≤T.length+1∧s≤s'∧s'≤s+1:=by
 cases h with
 |make=>simp
 |made=>simp
 |move=>simp
 |moved=>simp
 |other=>simp
end Go.Proofs.YthhakekbffembaaGreatDoor.Ck.Y

namespace Go.Proofs.YthhakekbffembaaGreatDoor.Ck.Y
open Go.RowKit Go.Maps
variable {w:World} {base g n cap:Nat} {v:Value}
abbrev PI:=Int×Int
variable {l:List PI} {a b:PI}
def idL (x:PI):List Value:=[.int .i64 x.1,.int .i64 x.2]
abbrev idC (x:PI):Array Value:= #[.int .i64 x.1,.int .i64 x.2]
def aKz:List PI→List Value
 |[]=>[]
 |x::l=>idL x++aKz l
theorem aUz (x:PI):(idL x).length=2:=rfl
theorem jbz (x:PI):∀v∈idL x,v.oneCell'=true:=by
 intro v hv
 simp only[idL,List.mem_cons,List.not_mem_nil,or_false]at hv
 rcases hv with rfl|rfl<;>rfl
theorem cqz:∀l:List PI,(aKz l).length=l.length*2
 |[]=>rfl
 |x::l=>by rw[aKz,List.length_append,aUz,cqz l,List.length_cons];omega
theorem c0z:∀l m:List PI,aKz (l++m)=aKz l++aKz m
 |[],_=>rfl
 |x::l,m=>by rw[List.cons_append,aKz,aKz,c0z l m,List.append_assoc]
theorem hlz:∀(l:List PI) (i j:Nat) (x:PI),l[i]? =some x→j<2→(aKz l)[i*2+j]? =(idL x)[j]?
 |[],_,_,_,h,_=>by simp at h
 |y::l,0,j,x,h,hj=>by
  have:y=x:=by simpa using h
  subst this
  rw[aKz,Nat.zero_mul,Nat.zero_add,List.getElem?_append_left (by rw[aUz];exact hj)]
 |y::l,i+1,j,x,h,hj=>by
  rw[aKz,List.getElem?_append_right (by rw[aUz];omega),aUz,show(i+1)*2+j-2=i*2+j by omega]
  exact hlz l i j x (by simpa using h) hj
theorem fez:∀(l:List PI) (i:Nat),(aKz l).take (i*2)=aKz (l.take i)
 |[],i=>by simp[aKz]
 |x::l,0=>by simp[aKz]
 |x::l,i+1=>by
  rw[aKz,List.take_succ_cons,aKz,List.take_append,aUz,show(i+1)*2-2=i*2 by omega,fez l i,List.take_of_length_le (by rw[aUz];omega)]
theorem fdz:∀(l:List PI) (i:Nat),(aKz l).drop (i*2)=aKz (l.drop i)
 |[],i=>by simp[aKz]
 |x::l,0=>by simp
 |x::l,i+1=>by
  rw[aKz,List.drop_succ_cons,List.drop_append,aUz,show(i+1)*2-2=i*2 by omega,fdz l i,List.drop_of_length_le (by rw[aUz];omega),List.nil_append]
theorem kwz (l:List PI) (i:Nat) (x:PI) (hi:i<l.length):aKz (l.set i x)=(aKz l).take (i*2)++idL x++(aKz l).drop (i*2+2):=by
 rw[fez,show i*2+2=(i+1)*2 by omega,fdz,List.set_eq_take_append_cons_drop,if_pos hi,c0z,aKz,List.append_assoc]
def RowI (w:World) (base:Nat) (v:Value) (l:List PI):Prop:=w.ownsRow base 28 2 v l.length (aKz l)
theorem RowI.nil (w:World) (base:Nat):RowI w base (.slice none 0 0) []:=⟨rfl,.inl ⟨rfl,rfl⟩⟩
theorem RowI.below {w':World} (h:RowI w base v l) (hb:Below w.heap.size w w'):RowI w' base v l:=own_below h hb
theorem RowI.form (h:RowI w base v l) (hl:0<l.length):∃g cap cur,v=.slice (some ⟨g,0,none⟩) l.length cap∧w.heap[g]? =some (.cells cur 28 (0,0))∧base≤g∧l.length≤cap∧cap≤maxLen∧cur.size=cap*2∧cur.toList.take (l.length*2)=aKz l:=by
 rcases h.2 with⟨_,h0⟩|⟨g,cap,cur,hv,hb,hblk,h1,h2,h3,h4⟩
 ·omega
 ·exact⟨g,cap,cur,hv,hblk,hb,h1,h2,h3,h4⟩
theorem RowI.tag (h:RowI w base v l) (hg:v.ownBlock=some g):∃cs,w.heap[g]? =some (.cells cs 28 (0,0))∧base≤g:=by
 rcases h.2 with⟨rfl,_⟩|⟨g',cap,cur,rfl,hb,hblk,_⟩
 ·simp[Value.ownBlock]at hg
 ·have e':g'=g:=by simpa[Value.ownBlock]using hg
  subst e'
  exact⟨cur,hblk,hb⟩
theorem RowI.cur (h:RowI w base (.slice (some ⟨g,0,none⟩) n cap) l):∃cur,w.heap[g]? =some (.cells cur 28 (0,0))∧n=l.length∧base≤g∧n≤cap∧cap≤maxLen∧cur.size=cap*2∧cur.toList.take (n*2)=aKz l:=by
 rcases h.2 with⟨e,_⟩|⟨g',cap',cur,e,hb,hblk,h1,h2,h3,h4⟩
 ·cases e
 ·cases e
  exact⟨cur,hblk,rfl,hb,h1,h2,h3,h4⟩
theorem RowI.cells (h:RowI w base (.slice (some ⟨g,0,none⟩) n cap) l) {i:Nat} {x:PI} (hx:l[i]? =some x):
  w.cell? ⟨g,i*2,none⟩=some (.int .i64 x.1)∧w.cell? ⟨g,i*2+1,none⟩=some (.int .i64 x.2):=by
 obtain⟨cur,hblk,hn,_,_,_,_,h4⟩:=h.cur
 have hil:=(List.getElem?_eq_some_iff.1 hx).1
 have key:∀j,j<2→w.cell? ⟨g,i*2+j,none⟩=(idL x)[j]? :=λj hj=>by
  rw[cellOf hblk,← hlz l i j x hx hj,← h4,List.getElem?_take,if_pos (by omega),Array.getElem?_toList]
 exact⟨key 0 (by omega),key 1 (by omega)⟩
theorem g2z:∃i,Tryz.prog.info? 28=some i∧i.zero=some (.agg #[.int .i64 0,.int .i64 0])∧i.size=2∧i.bytes=16:=by
 have e:(Tryz.prog.info? 28).map (λi=>(i.zero,i.size,i.bytes))=some (some (.agg #[.int .i64 0,.int .i64 0]),2,16):=by kernel_rfl
 obtain⟨i,hi,he⟩:=Option.map_eq_some_iff.1 e
 injection he with h1 h2
 injection h2 with h2 h3
 exact⟨i,hi,h1,h2,h3⟩
theorem RowI.set {i:Nat} {cur:Array Value} (h:RowI w base (.slice (some ⟨g,0,none⟩) n cap) l) (hi:i<l.length) (x:PI) (hc:w.heap[g]? =some (.cells cur 28 (0,0))):
  RowI (w.setRow g (cur.toList.take (i*2)++idL x++cur.toList.drop (i*2+2)).toArray) base (.slice (some ⟨g,0,none⟩) n cap) (l.set i x):=by
 obtain⟨cur',hblk,hn,hb,h1,h2,h3,h4⟩:=h.cur
 rw[hc]at hblk
 injection hblk with hblk
 injection hblk with hblk
 subst hblk
 refine⟨by rw[cqz],.inr ⟨g,cap,_,by rw[List.length_set,hn],hb,setRow_heap w g _ _ _ _ hc,by rw[List.length_set];omega,h2, ?_, ?_⟩⟩
 ·simp only[List.size_toArray,List.length_append,List.length_take,List.length_drop,Array.length_toList,aUz,h3]
  omega
 ·rw[kwz l i x hi,← h4,List.length_set,← hn]
  have hlen:cur.toList.length=cap*2:=by rw[Array.length_toList,h3]
  apply List.ext_getElem?
  intro j
  simp only[List.getElem?_take,List.getElem?_append,List.length_append,List.length_take,aUz,List.getElem?_drop,hlen]
  by_cases a1:j<n*2
  ·rw[if_pos a1]
   have e1:min (i*2) (cap*2)=i*2:=by omega
   have e2:min (i*2) (min (n*2) (cap*2))=i*2:=by omega
   rw[e1,e2]
   by_cases a2:j<i*2
   ·have a4:j<i*2+2:=by omega
    simp only[a4,a2,a1,if_true]
   ·by_cases a3:j<i*2+2
    ·simp only[a3,a2,if_true,if_false]
    ·simp only[a3,if_false]
     rw[if_pos (by omega)]
  ·rw[if_neg a1]
   have e2:min (i*2) (min (n*2) (cap*2))=i*2:=by omega
   rw[e2,if_neg (by omega),if_neg (by omega)]
theorem ccz {ops:Array Oper} {rest:List Oper} {o:Oper} {a:Act} {Q:Exit→Act→World→Prop} (hgd:o.guard=none) (x y:Operand) (ho:o.op=.store 28 x y)
  (base g n cap i:Nat) (l:List PI) (z:PI) (hx:a.eval x=.pointer (some ⟨g,i*2,none⟩)) (hy:a.eval y=idv z.1 z.2) (h:Hid (RowI w base (.slice (some ⟨g,0,none⟩) n cap) l∧i<l.length)) (hK:∀w',Hid (RowI w' base (.slice (some ⟨g,0,none⟩) n cap) (l.set i z)∧Only (· =g) w w'∧w'.heap.size=w.heap.size)→wpList Tryz.prog ops Q rest (a.put o.dst undef) w'):wpList Tryz.prog ops Q (o::rest) a w:=by
 obtain⟨h1,hi⟩:=h.out
 obtain⟨cur,hblk,hn,hb,g1,g2,g3,g4⟩:=h1.cur
 obtain⟨i0,hi0,hz0,hz1,hz2⟩:=g2z
 have hr:=run_storeCells_at (P:=Tryz.prog) g (i*2) 28 (idL z) 0 cur w hblk (by rw[aUz,g3];omega) (jbz z)
 rw[Nat.add_zero,aUz]at hr
 have hs:(storeVar 28 ⟨g,i*2,none⟩ (idv z.1 z.2)).run Tryz.prog w=.ok () (w.setRow g (cur.toList.take (i*2)++idL z++cur.toList.drop (i*2+2)).toArray):=by
  rw[← hr]
  simp[storeVar,sizeOf,typeInfo,hi0,Value.cells,hz1,idL]
 refine wpList_plain hgd λK hK'=> ?_
 unfold Oper.wp execOp
 simp only[ho,hx,hy,Instr.storeAt,Instr.sureAddr,Sem.run_bind,Sem.run_pure,Result.andThen_ok,hs]
 exact hK' _ _ (hK _ ⟨h1.set hi z hblk,⟨rfl,rfl,rfl,by simp,λk _ hk=>setRow_other w g k _ hk⟩,by simp⟩)
theorem gFz {ops:Array Oper} {rest:List Oper} {o:Oper} {a:Act} {Q:Exit→Act→World→Prop} (hgd:o.guard=none) (s x:Operand) (ho:o.op=.call {callee:=.builtin .append,args:= #[s,x],argTypes:= #[96,96]})
  (base:Nat) (v:Value) (l:List PI) (z:PI) (hs:a.eval s=v) (g:Nat) (hx:a.eval x=.slice (some ⟨g,0,none⟩) 1 1) (h:Hid (RowI w base v l∧w.heap[g]? =some (.cells (idC z) 28 (0,0))∧l.length<1000000∧base≤w.heap.size)) (hK:∀p c w',Hid (RowI w' base (.slice p (l.length+1) c) (l++[z])∧w.grownBy w' v.ownBlock∧((Value.slice p (l.length+1) c).ownBlock=v.ownBlock∨(Value.slice p (l.length+1) c).ownBlock=some w.heap.size))→wpList Tryz.prog ops Q rest (a.put o.dst (.slice p (l.length+1) c)) w'):wpList Tryz.prog ops Q (o::rest) a w:=by
 obtain⟨h1,hg,hl,hb⟩:=h.out
 obtain⟨i0,hi0,hz0,hz1,hz2⟩:=g2z
 refine wpList_append_own_at _ hgd s x 96 ho base 28 i0 _ 2 16 Tryz.underlying96 hi0 hz0 hz1 hz2 rfl (by decide) v l.length (aKz l) hs h1 ⟨g,0,none⟩ 1 1 (idL z) hx rfl (λj u hj=>by
  rw[Addr.add_lit,Nat.zero_add,cellOf hg j]
  simpa[idC,idL]using hj) (jbz z) (by unfold maxLen;omega) (by omega) hb ?_
 intro v' w' g1 g2 _ g4
 obtain⟨p,c,rfl⟩:=own_slice g1
 refine hK p c w' ⟨?_,g2,g4⟩
 have e:aKz (l++[z])=aKz l++idL z:=by rw[c0z];simp[aKz]
 unfold RowI
 rw[e,List.length_append]
 exact g1
def avz (a b:PI):Prop:=lessB a.1 a.2 b.1 b.2=true
theorem d1z (a b:PI):avz a b↔a.1<b.1∨(a.1=b.1∧a.2<b.2):=by simp[avz,lessB]
theorem etz (h:avz a b) (h':avz b a):False:=by
 rw[d1z]at h h'
 omega
theorem bez {c:PI} (h:avz a b) (h':avz b c):avz a c:=by
 rw[d1z]at h h'⊢
 omega
theorem f7z (h:¬avz a b) (hn:¬(a.1=b.1∧a.2=b.2)):avz b a:=by
 rw[d1z]at h⊢
 omega
def bvz (T:List OB) (t n:Int):List PI:=(T.filter λo=>azz o.pt o.pn t n).map idp
theorem fkz (T:List OB) (o:OB) (t n:Int):bvz (T++[o]) t n=bvz T t n++(if azz o.pt o.pn t n=true then[idp o]else[]):=by
 unfold bvz
 rw[List.filter_append,List.map_append]
 congr 1
 by_cases h:azz o.pt o.pn t n=true
 ·simp[h]
 ·simp[h]
structure IsKids (T:List OB) (t n:Int) (m:List PI):Prop where
 perm:m.Perm (bvz T t n)
 rise:m.Pairwise avz
theorem dNz:∀{l m:List PI},l.Pairwise avz→m.Pairwise avz→l.Perm m→l=m
 |[],m,_,_,h=>(List.Perm.nil_eq h)
 |x::l,[],_,_,h=>by have:=h.length_eq;simp at this
 |x::l,y::m,h1,h2,h=>by
  have a1:=List.pairwise_cons.1 h1
  have a2:=List.pairwise_cons.1 h2
  have e:x=y:=by
   have hx:x∈y::m:=h.mem_iff.1 (by simp)
   have hy:y∈x::l:=h.mem_iff.2 (by simp)
   rcases List.mem_cons.1 hx with e|hx
   ·exact e
   ·rcases List.mem_cons.1 hy with e|hy
    ·exact e.symm
    ·exact(etz (a2.1 x hx) (a1.1 y hy)).elim
  subst e
  rw[dNz a1.2 a2.2 (List.Perm.cons_inv h)]
theorem IsKids.unique {T:List OB} {t n:Int} {m m':List PI} (h:IsKids T t n m) (h':IsKids T t n m'):m=m':=dNz h.rise h'.rise (h.perm.trans h'.perm.symm)
def bjz (T:List PI) (k:Nat) (x:PI):List PI:=T.take k++x::T.drop k
theorem e7z (T:List PI) (k:Nat) (x:PI):(bjz T k x).Perm (T++[x]):=by
 unfold bjz
 have h1:(T.take k++x::T.drop k).Perm (x::(T.take k++T.drop k)):=List.perm_middle
 rw[List.take_append_drop]at h1
 exact h1.trans (List.perm_append_comm (l₁:=[x]) (l₂:=T))
theorem hjz (T:List PI) (k:Nat) (x:PI):(bjz T k x).length=T.length+1:=by rw[(e7z T k x).length_eq];simp
theorem fDz {x:PI} {j:Nat} (h:l.Pairwise avz) (h1:∀a∈l.take j,avz a x) (h2:∀a∈l.drop j,avz x a):(bjz l j x).Pairwise avz:=by
 unfold bjz
 have h':=h
 rw[← List.take_append_drop j l,List.pairwise_append]at h'
 rw[List.pairwise_append]
 refine⟨h'.1,List.pairwise_cons.2 ⟨h2,h'.2.1⟩,λa ha b hb=> ?_⟩
 rcases List.mem_cons.1 hb with rfl|hb
 ·exact h1 a ha
 ·exact h'.2.2 a ha b hb
end Go.Proofs.YthhakekbffembaaGreatDoor.Ck.Y
