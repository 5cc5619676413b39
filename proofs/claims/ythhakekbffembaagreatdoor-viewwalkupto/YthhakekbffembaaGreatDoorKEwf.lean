import Derived.Test.YthhakekbffembaaGreatDoorQEwc
import Derived.Test.YthhakekbffembaaGreatDoorQOvx

namespace Go.Proofs.YthhakekbffembaaGreatDoor
open Go.ChangeShapes Go.WideShapes Go.ChangeAt Go.RowKit Go.Deep
theorem lzz {H:Type} (d:DataW H):1≤Rows.uptoBulk d:=by
 cases d with
 |lit l=>cases l<;>simp[Rows.uptoBulk]
 |nil=>simp[Rows.uptoBulk]
 |ptr d=>simp[Rows.uptoBulk]
 |slice elems spare=>simp[Rows.uptoBulk]
 |agg parts=>simp[Rows.uptoBulk]
 |iface t d=>simp[Rows.uptoBulk]
 |map entries=>simp[Rows.uptoBulk]
 |held h=>simp[Rows.uptoBulk]
theorem k5z {H:Type} {d:DataW H} {l:List (DataW H)} (h:d∈l):Rows.uptoBulk d≤Rows.uptoBulkAll l:=by
 induction l with
 |nil=>cases h
 |cons x r ih=>
  simp only[Rows.uptoBulkAll]
  cases List.mem_cons.1 h with
  |inl e=>subst e;omega
  |inr e=>have:=ih e;omega
theorem m5z {H:Type} (l:List (DataW H)):l.length≤Rows.uptoBulkAll l:=by
 induction l with
 |nil=>simp[Rows.uptoBulkAll]
 |cons x r ih=>have:=lzz x;simp only[Rows.uptoBulkAll,List.length_cons];omega
theorem mhz:Tryz.prog.cellsOf 9=1:=by kernel_rfl
theorem jYz {H:Type} {enc:TypeId×Value→H} {W:World} {fuel:Nat} {a:Option Addr} {len cap:Nat} {y:DataW H×List MemPlace} (h:DataW.trod enc Tryz.prog W 0 (λ_=>true) true fuel 53 [.slice a len cap]=some y) (hB:Rows.uptoBulk y.1≤1048576):
  ∃names:List (List UInt8),names.length=len∧Ck.Sh.Nms W a names∧(∀x∈names,x.length≤1048576)∧len≤cap∧len≤1048576:=by
 rcases open_slice1 Tryz.underlying53 mhz h with⟨hcs,_⟩|⟨⟨b,off,spot⟩,len',cap',m,n,V,D,Pl,hcs,_,hl,hmax,hm,hx,hel⟩
 ·simp at hcs
  obtain⟨rfl,rfl,rfl⟩:=hcs
  exact⟨[],rfl,(λj x hx=>by simp at hx),λx hx=>(by simp at hx),Nat.le_refl _,by omega⟩
 ·simp at hcs
  obtain⟨rfl,rfl,rfl⟩:=hcs
  simp only[if_true]at hm
  subst hm
  rw[hx]at hB
  simp only[Rows.uptoBulk]at hB
  have hlen:len≤1048576:=by
   have:=m5z ((List.range len).map D)
   rw[List.length_map,List.length_range]at this
   omega
  have hex:∀k,∃i:List UInt8,k<len→W.cell? (Addr.add ⟨b,off,spot⟩ k)=some (.string (Ck.Sh.bas i))∧i.length≤1048576:=by
   intro k
   by_cases hk:k<len
   ·obtain⟨hc,ht⟩:=hel k (by omega)
    obtain⟨s,hs,hd,_⟩:=DataW.trod_string Tryz.underlying9 ht
    have hv:V k=.string s:=by simpa using hs
    refine⟨s.data.toList,λ_=>⟨by rw[hc,hv,Ck.Sh.bas_of], ?_⟩⟩
    have h1:=k5z (List.mem_map.2 ⟨k,List.mem_range.2 hk,rfl⟩:D k∈(List.range len).map D)
    have h2:D k=.lit (.string s.data.toList):=(Prod.mk.inj hd).1
    rw[h2]at h1
    simp only[Rows.uptoBulk]at h1
    omega
   ·exact⟨[],λh=>absurd h hk⟩
  obtain⟨f,hf⟩:∃f:Nat→List UInt8,∀k,k<len→W.cell? (Addr.add ⟨b,off,spot⟩ k)=some (.string (Ck.Sh.bas (f k)))∧(f k).length≤1048576:=⟨λk=>(hex k).choose,λk=>(hex k).choose_spec⟩
  have hfl:((List.range len).map f).length=len:=by simp
  refine⟨(List.range len).map f,hfl,λj x hj=> ?_,λx hx=> ?_,hl,hlen⟩
  ·have hlt:=(List.getElem?_eq_some_iff.1 hj).1
   rw[hfl]at hlt
   rw[List.getElem?_map,List.getElem?_range hlt]at hj
   cases hj
   have hc:=(hf j hlt).1
   have hs:spot=none:=by
    have:=World.cell?_spot (hf 0 (by omega)).1
    simpa[Addr.add]using this
   subst hs
   exact⟨b,off,rfl,by rw[Addr.add_lit]at hc;exact hc⟩
  ·obtain⟨k,hk,rfl⟩:=List.mem_map.1 hx
   exact(hf k (List.mem_range.1 hk)).2
end Go.Proofs.YthhakekbffembaaGreatDoor
