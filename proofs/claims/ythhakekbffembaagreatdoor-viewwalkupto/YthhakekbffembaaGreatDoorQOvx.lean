import Derived.Test.YthhakekbffembaaGreatDoorKLta
import Derived.Deep.RegionWith
import Derived.ProofKit
import Derived.OpenShut
import Derived.ChangeOld
import Derived.Deep.Slices
import Derived.Deep.Grids

namespace Go.Proofs.YthhakekbffembaaGreatDoor.Cd
open Go.ChangeShapes Go.WideShapes Go.ChangeAt Go.RowKit Go.Deep
variable {fuel:Nat} {cs:List Value}
theorem mJz:Tryz.prog.cellsOf 5=1:=by kernel_rfl
theorem cellsI64:Tryz.prog.cellsOf 2=1:=by kernel_rfl
theorem cellsInt:Tryz.prog.cellsOf 3=1:=by kernel_rfl
theorem cellsStr:Tryz.prog.cellsOf 9=1:=by kernel_rfl
theorem cellsId:Tryz.prog.cellsOf 28=2:=by kernel_rfl
theorem cellsBs:Tryz.prog.cellsOf 29=1:=by kernel_rfl
theorem cellsVec:Tryz.prog.cellsOf 31=1:=by kernel_rfl
theorem cellsOp:Tryz.prog.cellsOf 33=11:=by kernel_rfl
def byteOf (z:Int):BitVec 8:=BitVec.ofNat 8 z.toNat
theorem iez {z:Int} (h:(Lit.int .u8 z).wf=true):u8v (byteOf z)=.int .u8 z:=by
 simp[Lit.wf]at h
 have h1:(0:Int)≤z:=h.1
 have h2:z≤255:=h.2
 unfold u8v byteOf
 rw[BitVec.toNat_ofNat,Nat.mod_eq_of_lt (by omega)]
 congr 1
 omega
theorem dLz {W:World} {k:IntKind} {a:Addr} {len cap:Nat} {zs:List Int} (hl:len≤cap) (hz:zs.length=cap) (hc:∀i,i<cap→W.cell? (a.add i)=some (.int k (zs.getD i 0))) (hp:0<len):∃b o,a=⟨b,o,none⟩∧∀(j:Nat) (x:Int),(zs.take len)[j]? =some x→W.cell? ⟨b,o+j,none⟩=some (.int k x):=by
 obtain⟨b,off,spot⟩:=a
 have h0:=hc 0 (by omega)
 have hspot:spot=none:=by simpa[Addr.add]using World.cell?_spot h0
 subst hspot
 refine⟨b,off,rfl,λj x hj=> ?_⟩
 rw[List.getElem?_take]at hj
 split at hj
 ·have hcell:=hc j (by omega)
  rw[Addr.add_lit,List.getD,hj,Option.getD_some]at hcell
  exact hcell
 ·cases hj
theorem bytes_in {H:Type} {enc:TypeId×Value→H} {W:World} {r:DataW H×List MemPlace} (h:DataW.trod enc Tryz.prog W 0 (λ_=>true) true fuel 29 cs=some r):
  ∃a cap,∃bs:List (BitVec 8),cs=[.slice a bs.length cap]∧bs.length≤cap∧bs.length≤maxLen∧Bytes W a bs:=by
 rcases open_ints Tryz.underlying29 Tryz.underlying5 mJz h with⟨hcs,_⟩|⟨x,len,cap,zs,hcs,_,hl,hm,hz,_,hcell,hw⟩
 ·exact⟨none,0,[],hcs,Nat.le_refl _,Nat.zero_le _,bytes_nil _ _⟩
 ·have hz':zs.length=cap:=by simpa using hz
  have hlen:((zs.take len).map byteOf).length=len:=by simp;omega
  refine⟨some x,cap,(zs.take len).map byteOf,by rw[hlen];exact hcs,by rw[hlen];exact hl,by rw[hlen];omega,λhp=> ?_⟩
  rw[hlen]at hp
  obtain⟨b,o,rfl,hx⟩:=dLz hl hz' (λi hi=>hcell i (by omega)) hp
  refine⟨b,o,rfl,λj y hj=> ?_⟩
  rw[List.getElem?_map]at hj
  obtain⟨z,hzj,rfl⟩:=Option.map_eq_some_iff.1 hj
  rw[hx j z hzj,iez (hw z (List.mem_of_mem_take (List.mem_of_getElem? hzj)))]
theorem ints_in {H:Type} {enc:TypeId×Value→H} {W:World} {r:DataW H×List MemPlace} (h:DataW.trod enc Tryz.prog W 0 (λ_=>true) true fuel 31 cs=some r):
  ∃a cap,∃ns:List Int,cs=[.slice a ns.length cap]∧ns.length≤cap∧ns.length≤maxLen∧Lies W a (ns.map iv):=by
 rcases open_ints Tryz.underlying31 Tryz.underlying2 cellsI64 h with⟨hcs,_⟩|⟨x,len,cap,zs,hcs,_,hl,hm,hz,_,hcell,hw⟩
 ·exact⟨none,0,[],hcs,Nat.le_refl _,Nat.zero_le _,dPz _ _⟩
 ·have hz':zs.length=cap:=by simpa using hz
  have hlen:(zs.take len).length=len:=by simp;omega
  refine⟨some x,cap,zs.take len,by rw[hlen];exact hcs,by rw[hlen];exact hl,by rw[hlen];omega,λhp=> ?_⟩
  rw[List.length_map,hlen]at hp
  obtain⟨b,o,rfl,hx⟩:=dLz hl hz' (λi hi=>hcell i (by omega)) hp
  refine⟨b,o,rfl,λj y hj=> ?_⟩
  rw[List.getElem?_map]at hj
  obtain⟨z,hzj,rfl⟩:=Option.map_eq_some_iff.1 hj
  exact hx j z hzj
theorem nEz {α:Type} {l:List α} (h:l.length=2):∃a b,l=[a,b]:=by
 match l,h with
 |[a,b],_=>exact⟨a,b,rfl⟩
theorem list8 {α:Type} {l:List α} (h:l.length=8):∃a b c d e f g i,l=[a,b,c,d,e,f,g,i]:=by
 match l,h with
 |[a,b,c,d,e,f,g,i],_=>exact⟨a,b,c,d,e,f,g,i,rfl⟩
theorem list11 {α:Type} {l:List α} (h:l.length=11):∃a b c d e f g i j k m,l=[a,b,c,d,e,f,g,i,j,k,m]:=by
 match l,h with
 |[a,b,c,d,e,f,g,i,j,k,m],_=>exact⟨a,b,c,d,e,f,g,i,j,k,m,rfl⟩
theorem id_cells {H:Type} {enc:TypeId×Value→H} {W:World} {x:DataW H×List MemPlace} (h:DataW.trod enc Tryz.prog W 0 (λ_=>true) true fuel 28 cs=some x):
  ∃t n:Int,cs=[.int .i64 t,.int .i64 n]:=by
 obtain⟨zs,n',_,_,hl,hlen,hf⟩:=DataW.trod_struct Tryz.underlying28 h
 rw[cellsId]at hl
 obtain⟨v0,v1,rfl⟩:=nEz hl
 obtain⟨z0,z1,rfl⟩:=nEz (show zs.length=2 from hlen)
 have g0:=hf 0 _ rfl
 have g1:=hf 1 _ rfl
 simp[cellsInt,cellsI64]at g0 g1
 obtain⟨tt,e3,_,_⟩:=DataW.trod_int Tryz.underlying2 g0
 obtain⟨dd,e4,_,_⟩:=DataW.trod_int Tryz.underlying3 g1
 simp at e3 e4
 subst e3 e4
 exact⟨tt,dd,rfl⟩
def OpIn (W:World) (v:Value) (t n sq kd ot on pt pn:Int) (nm:List UInt8) (p q:Option Addr) (c d:Nat) (data:List (BitVec 8)) (ns:List Int):Prop:=
 v=.agg #[.int .i64 t,.int .i64 n,.int .i64 sq,.int .i64 kd,.int .i64 ot,.int .i64 on,.int .i64 pt,.int .i64 pn,.string (bas nm),.slice p data.length c,.slice q ns.length d]∧
 data.length≤c∧ns.length≤d∧ns.length≤maxLen∧Bytes W p data∧Lies W q (ns.map iv)
end Go.Proofs.YthhakekbffembaaGreatDoor.Cd

namespace Go.Proofs.YthhakekbffembaaGreatDoor.Ck.Y.L
open Go.ChangeShapes Go.WideShapes Go.ChangeAt Go.RowKit Go.Deep
theorem l6z {H:Type} {enc:TypeId×Value→H} {W:World} {fuel:Nat} {a:Option Addr} {len cap:Nat} {y:DataW H×List MemPlace} {t e:TypeId} {S:Nat} (hu:Tryz.prog.underlying t=some (.slice e)) (hS:Tryz.prog.cellsOf e=S) (h0:0<S)
  {α:Type} (dflt:α) (R:Nat→Nat→α→Prop) (h:DataW.trod enc Tryz.prog W 0 (λ_=>true) true fuel t [.slice a len cap]=some y) (hel:∀(b o:Nat) (cs:List Value) (n:Nat) (x:DataW H×List MemPlace),W.cells? 0 ⟨b,o,none⟩ S=some cs→DataW.trod enc Tryz.prog W 0 (λ_=>true) true n e cs=some x→∃i,R b o i):
  ∃l:List α,l.length=len∧(0<len→∃g o,a=some ⟨g,o,none⟩∧∀(j:Nat) (x:α),l[j]? =some x→R g (o+j*S) x):=by
 rcases open_slice hu h with⟨hcs,_⟩|⟨⟨b,off,spot⟩,len',cap',m,n,D,Pl,hcs,_,hl,hmax,hm,hx,hel'⟩
 ·simp at hcs
  obtain⟨rfl,rfl,rfl⟩:=hcs
  exact⟨[],rfl,λh=>absurd h (by simp)⟩
 ·simp at hcs
  obtain⟨rfl,rfl,rfl⟩:=hcs
  simp only[if_true]at hm
  subst hm
  rw[hS]at hel'
  by_cases hp:0<len
  ·have hspot:spot=none:=by
    obtain⟨cs,hc,_⟩:=hel' 0 (by omega)
    obtain⟨_,_,hcell⟩:=World.cells?_some hc
    have h0':=hcell 0 (by omega)
    have hl6:=(World.cells?_some hc).2.1
    rw[List.getElem?_eq_getElem (by omega)]at h0'
    simpa[Addr.add]using World.cell?_spot h0'
   subst hspot
   have hex:∀k,∃i:α,k<len→R b (off+k*S) i:=by
    intro k
    by_cases hk:k<len
    ·obtain⟨cs,hc,ht⟩:=hel' k (by omega)
     rw[Addr.add_lit]at hc
     obtain⟨i,h2⟩:=hel b (off+k*S) cs n _ hc ht
     exact⟨i,λ_=>h2⟩
    ·exact⟨dflt,λh=>absurd h hk⟩
   obtain⟨f,hf⟩:∃f:Nat→α,∀k,k<len→R b (off+k*S) (f k):=⟨λk=>(hex k).choose,λk=>(hex k).choose_spec⟩
   have hlen:((List.range len).map f).length=len:=by simp
   refine⟨(List.range len).map f,hlen,λ_=>⟨b,off,rfl,λj x hj=> ?_⟩⟩
   have hlt:=(List.getElem?_eq_some_iff.1 hj).1
   rw[hlen]at hlt
   rw[List.getElem?_map,List.getElem?_range hlt]at hj
   cases hj
   exact hf j hlt
  ·have h0':len=0:=by omega
   subst h0'
   exact⟨[],rfl,λh=>absurd h (by simp)⟩
set_option maxRecDepth 8000 in
set_option maxHeartbeats 1000000 in
theorem irz {H:Type} {enc:TypeId×Value→H} {W:World} {fuel:Nat} {cs:List Value} {x:DataW H×List MemPlace} (h:DataW.trod enc Tryz.prog W 0 (λ_=>true) true fuel 33 cs=some x):
  ∃o:OG,cs=opG o∧∃ns bs,RawIn W o ns bs:=by
 obtain⟨zs,n',_,_,hl,hlen,hf⟩:=DataW.trod_struct Tryz.underlying33 h
 rw[Cd.cellsOp]at hl
 obtain⟨v0,v1,v2,v3,v4,v5,v6,v7,v8,v9,v10,rfl⟩:=Cd.list11 hl
 obtain⟨z0,z1,z2,z3,z4,z5,z6,z7,rfl⟩:=Cd.list8 (show zs.length=8 from hlen)
 have g0:=hf 0 _ rfl
 have g1:=hf 1 _ rfl
 have g2:=hf 2 _ rfl
 have g3:=hf 3 _ rfl
 have g4:=hf 4 _ rfl
 have g5:=hf 5 _ rfl
 have g6:=hf 6 _ rfl
 have g7:=hf 7 _ rfl
 simp[Cd.cellsInt,Cd.cellsI64,Cd.cellsId,Cd.cellsStr,Cd.cellsBs,Cd.cellsVec]at g0 g1 g2 g3 g4 g5 g6 g7
 obtain⟨t,n,e0⟩:=Cd.id_cells g0
 obtain⟨sq,e1,_,_⟩:=DataW.trod_int Tryz.underlying2 g1
 obtain⟨kd,e2,_,_⟩:=DataW.trod_int Tryz.underlying3 g2
 obtain⟨ot,on,e3⟩:=Cd.id_cells g3
 obtain⟨pt,pn,e4⟩:=Cd.id_cells g4
 obtain⟨s,e5,_,_⟩:=DataW.trod_string Tryz.underlying9 g5
 obtain⟨p,c,data,e6,k1,_,k2⟩:=Cd.bytes_in g6
 obtain⟨q,d,ns,e7,k3,k4,k5⟩:=Cd.ints_in g7
 simp at e0 e1 e2 e3 e4 e5 e6 e7
 refine⟨⟨t,n,sq,kd,ot,on,pt,pn,s,p,data.length,c,q,ns.length,d⟩, ?_,ns,data,⟨k5,rfl,k3,k4,k2,rfl,k1⟩⟩
 show _=[_,_,_,_,_,_,_,_,_,_,_]
 rw[e0.1,e0.2,e1,e2,e3.1,e3.2,e4.1,e4.2,e5,e6,e7]
theorem ops_in {H:Type} {enc:TypeId×Value→H} {W:World} {fuel:Nat} {a:Option Addr} {len cap:Nat} {y:DataW H×List MemPlace} (h:DataW.trod enc Tryz.prog W 0 (λ_=>true) true fuel 22 [.slice a len cap]=some y):
  ∃L:List OG,L.length=len∧OpsL W a L∧L.length≤maxLen:=by
 have hmax:len≤maxLen:=by
  rcases open_slice Tryz.underlying22 h with⟨hcs,_⟩|⟨_,len',cap',_,_,_,_,hcs,_,hl,hmax,_⟩
  ·simp at hcs;rw[hcs.2.1];exact Nat.zero_le _
  ·simp at hcs
   rw[hcs.2.1]
   omega
 obtain⟨l,hl,hr⟩:=l6z Tryz.underlying22 Cd.cellsOp (by decide) (⟨0,0,0,0,0,0,0,0,⟨#[]⟩,none,0,0,none,0,0⟩:OG) (λb o x=>(∀k:Nat,k<11→W.cell? ⟨b,o+k,none⟩=(opG x)[k]?)∧∃ns bs,RawIn W x ns bs) h (λb o cs n x hc ht=>by
  obtain⟨z,rfl,hz⟩:=irz ht
  obtain⟨_,_,hcell⟩:=World.cells?_some hc
  exact⟨z,λk hk=>by have:=hcell k hk;rwa [Addr.add_lit]at this,hz⟩)
 refine⟨l,hl,λh0=> ?_,by omega⟩
 obtain⟨g,o,e,hc⟩:=hr (by omega)
 refine⟨g,o,e,λj x hj=> ?_⟩
 obtain⟨h1,h2⟩:=hc j x hj
 exact⟨⟨h1 0 (by omega),h1 1 (by omega),h1 2 (by omega),h1 3 (by omega),h1 4 (by omega),h1 5 (by omega),h1 6 (by omega),h1 7 (by omega),h1 8 (by omega),h1 9 (by omega),h1 10 (by omega)⟩,h2⟩
end Go.Proofs.YthhakekbffembaaGreatDoor.Ck.Y.L
