import Derived.Test.YthhakekbffembaaGreatDoorQPf
import Derived.LaidEql

namespace Go.Proofs.YthhakekbffembaaGreatDoor.Ck.Y
open Go.RowKit Go.Maps Go.Lib
variable {T:List OB} {q:PI} {w:World}
def amz (T:List OB) (q:PI):PL:=(aoz T q.1 q.2).bind λk=>T[k]?.map λo=>((o.pt,o.pn),o.nm)
theorem d7z (T:List OB) (q:PI):upT T q=(amz T q).map (·.1):=by
 unfold upT amz
 cases aoz T q.1 q.2 with
 |none=>rfl
 |some k=>cases h:T[k]? <;>simp[h]
theorem ehz (h:aoz T q.1 q.2=none):amz T q=none:=by unfold amz;rw[h];rfl
theorem bKz {k:Nat} {o:OB} (h:aoz T q.1 q.2=some k) (ho:T[k]? =some o):amz T q=some ((o.pt,o.pn),o.nm):=by unfold amz;rw[h];simp[ho]
theorem caz {p:PI} {nm:ByteArray} (h:amz T q=some (p,nm)):∃k o,aoz T q.1 q.2=some k∧T[k]? =some o∧idp o=q∧(o.pt,o.pn)=p∧o.nm=nm:=by
 unfold amz at h
 cases hf:aoz T q.1 q.2 with
 |none=>rw[hf]at h;cases h
 |some k=>
  rw[hf]at h
  obtain⟨o,ho,e⟩:=Option.map_eq_some_iff.1 h
  obtain⟨o',ho',e1,e2⟩:=aCz hf
  rw[ho]at ho'
  cases ho'
  injection e with e3 e4
  exact⟨k,o,rfl,ho,Prod.ext e1 e2,e3,e4⟩
theorem ejz {x:OB} (hx:aoz T x.it x.ii=none):amz (T++[x])=b7z (amz T) (idp x) (some ((x.pt,x.pn),x.nm)):=by
 funext q
 by_cases e:q=idp x
 ·subst e
  rw[aSz]
  refine bKz (k:=T.length) (o:=x) ?_ (by simp)
  show aoz _ x.it x.ii=_
  rw[cCz,hx]
  simp
 ·rw[bBz _ _ e]
  unfold amz
  rw[cCz]
  cases hf:aoz T q.1 q.2 with
  |none=>
   have:¬(x.it=q.1∧x.ii=q.2):=λh=>e (Prod.ext h.1.symm h.2.symm)
   simp[this]
  |some k=>
   obtain⟨o,ho,_⟩:=aCz hf
   have hk:=(List.getElem?_eq_some_iff.1 ho).1
   simp[List.getElem?_append_left hk]
theorem fqz {k:Nat} {b b':OB} (ha:cfz T) (hb:T[k]? =some b) (h:idp b'=idp b):amz (T.set k b')=b7z (amz T) (idp b) (some ((b'.pt,b'.pn),b'.nm)):=by
 funext q
 have hk:=(List.getElem?_eq_some_iff.1 hb).1
 have hf:=cWz ha hb
 by_cases e:q=idp b
 ·subst e
  rw[aSz]
  refine bKz (k:=k) (o:=b') ?_ (by simp[hk])
  show aoz _ b.it b.ii=_
  rw[clz hb h]
  exact hf
 ·rw[bBz _ _ e]
  unfold amz
  rw[clz hb h]
  cases hf':aoz T q.1 q.2 with
  |none=>rfl
  |some j=>
   obtain⟨o,ho,e1,e2⟩:=aCz hf'
   have:k≠j:=λek=>by
    subst ek
    rw[hb]at ho
    cases ho
    exact e (Prod.ext e1.symm e2.symm)
   simp[List.getElem?_set_ne this]
theorem jAz (d b:Nat) (w:World):(Op.equalIn (d+1) 125 (.pointer (some ⟨b,0,none⟩)) (.pointer (some ⟨b,0,none⟩))).run Tryz.prog w=.ok true w:=by
 simp[Op.equalIn,run_underlying Tryz.underlying125,Tryz.sizeOf131,run_sameAddr_same]
theorem haz (b:Nat) (w:World):(binOp .eql 125 (.pointer (some ⟨b,0,none⟩)) (.pointer (some ⟨b,0,none⟩))).run Tryz.prog w=.ok (.bool true) w:=by
 simp only[binOp]
 simp[Op.equal,Op.maxDepth,jAz 9999 b w]
theorem hYz (d:Nat) {a b:Nat} {ca cb:Array Value} {ta tb:TypeId} (hne:a≠b) (ha:w.heap[a]? =some (.cells ca ta (0,0))) (hb:w.heap[b]? =some (.cells cb tb (0,0))):(Op.equalIn (d+1) 125 (.pointer (some ⟨a,0,none⟩)) (.pointer (some ⟨b,0,none⟩))).run Tryz.prog w=.ok false w:=by
 have h:(⟨a,0,none⟩:Addr)≠⟨b,0,none⟩:=λe=>hne (by injection e)
 simp[Op.equalIn,run_underlying Tryz.underlying125,Tryz.sizeOf131,run_sameAddr_other w h ha hb]
theorem fIz {a b:Nat} {ca cb:Array Value} {ta tb:TypeId} (hne:a≠b) (ha:w.heap[a]? =some (.cells ca ta (0,0))) (hb:w.heap[b]? =some (.cells cb tb (0,0))):(binOp .eql 125 (.pointer (some ⟨a,0,none⟩)) (.pointer (some ⟨b,0,none⟩))).run Tryz.prog w=.ok (.bool false) w:=by
 simp only[binOp]
 simp[Op.equal,Op.maxDepth,hYz 9999 hne ha hb]
def l4z (U:List PI) (bl:PI→Nat) (r:PI→Nat):Value→Nat
 |.pointer (some a)=>r (kyU U bl a.block)+1
 |_=>0
set_option maxRecDepth 8000 in
set_option maxHeartbeats 1000000 in
theorem eSz {F:Nat→Prop} {U:List PI} {bl:PI→Nat} {kv:PI→Value} {dr:PI→Bool} {pk:PI→PL} (h:ObjsM F w U bl kv dr (amz T) pk) (hpar:∀q∈U,∀p nm,amz T q=some (p,nm)→p∈U) (hrk:Ranked T) {a b:PI} (ha:a∈U) (hb:b∈U):
  Calls Tryz.prog 82 #[.pointer (some ⟨bl a,0,none⟩),.pointer (some ⟨bl b,0,none⟩)] w λe w'=>∃r,e=.returned (.bool r)∧(r=true↔Bel T a b)∧w'=w:=by
 obtain⟨rk,hr⟩:=hrk
 have HH:=a0z (agz h (agz hpar hr))
 have c0:w.cell? ⟨bl a,0,none⟩=some (plA bl (amz T a)):=h.cell ha 0
 obtain⟨va,hva⟩:∃va,plA bl (amz T a)=va:=⟨_,rfl⟩
 rw[hva]at c0
 have HV:Hid (va=plA bl (amz T a)):=hva.symm
 clear h hpar hr hva
 go_enter Tryz.func82,Tryz.ntmps82
 go_wp2_with fail
 go_loopw [5] (λv wr=>wr=w∧∃c,c∈U∧v=plA bl (amz T c)∧Hid (Bel T a b↔Bel T c b)) (λv _=>l4z U bl rk v)
 case atStart=>exact⟨rfl,a,ha,HV.out,Iff.rfl⟩
 case round=>
  obtain⟨rfl,c,hc,rfl,HI⟩:=hrel
  cases hpl:amz T c with
  |none=>
   have HN:Hid (¬Bel T a b):=λhb'=>Bel.not (by rw[d7z,hpl];rfl) (HI.out.1 hb')
   clear c0
   simp only[plA]
   go_wp2_with fail
   go_ret
   exact⟨false,rfl,⟨(λe=>by cases e),λe=>absurd e HN.out⟩,rfl⟩
  |some pn=>
   obtain⟨p,nm⟩:=pn
   have hp:p∈U:=HH.out.2.1 c hc p nm hpl
   have hup:upT T c=some p:=by rw[d7z,hpl];rfl
   have cp:wr.cell? ⟨bl p,0,none⟩=some (plA bl (amz T p)):=HH.out.1.cell hp 0
   clear c0
   simp only[plA,pv]
   by_cases e:p=b
   ·subst e
    have HY:Hid (Bel T a p):=HI.out.2 (.one hup)
    have hE:=haz (bl p) wr
    go_wp2_with fail
    go_ret
    exact⟨true,rfl,⟨λ_=>HY.out,λ_=>rfl⟩,rfl⟩
   ·have hne:¬bl p=bl b:=λe'=>e (HH.out.1.inj p hp b hb e')
    have hE:=fIz hne (HH.out.1.obj p hp) (HH.out.1.obj b hb)
    have HY:Hid (Bel T a b↔Bel T p b):=HI.out.trans (Bel.next hup e)
    have HR:Hid (l4z U bl rk (plA bl (amz T p))<l4z U bl rk (.pointer (some ⟨bl p,0,none⟩))):=by
     have hlt:=HH.out.2.2
     show _<rk (kyU U bl (bl p))+1
     rw[b9z HH.out.1.inj hp]
     cases hpp:amz T p with
     |none=>exact Nat.succ_pos _
     |some x=>
      obtain⟨p3,nm3⟩:=x
      have h3:p3∈U:=HH.out.2.1 p hp p3 nm3 hpp
      show rk (kyU U bl (bl p3))+1<_
      rw[b9z HH.out.1.inj h3]
      have:=hlt p p3 (by rw[d7z,hpp];rfl)
      omega
    go_wp2_with fail
    go_roundw
    case rel=>exact⟨trivial,p,hp,rfl,HY.out⟩
    case measure=>exact HR.out
end Go.Proofs.YthhakekbffembaaGreatDoor.Ck.Y
