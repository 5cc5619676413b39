import Derived.Test.YthhakekbffembaaGreatDoorQEva

namespace Go.Proofs.YthhakekbffembaaGreatDoor.Ck.Y.L
open Go.RowKit Go.Maps Go.Lib
structure Con (u:World) (nsf:OG→List Int) (bsf:OG→List (BitVec 8)) (l:List OG):Prop where
 each:∀o∈l,WIn u o (nsf o) (bsf o)∧mayW o (nsf o)=true
 apart:l.Pairwise λa b=>(a.t,a.n)≠(b.t,b.n)
theorem Taken.con {u:World} {l:List OG} (h:Taken u l):∃nsf bsf,Con u nsf bsf l:=by
 classical
 refine⟨λo=>if q:∃ns bs,WIn u o ns bs∧mayW o ns=true then q.choose else[],λo=>if q:∃ns bs,WIn u o ns bs∧mayW o ns=true then q.choose_spec.choose else[],⟨λo ho=> ?_,h.apart⟩⟩
 obtain⟨ns,bs,h1,h2,_⟩:=h.each o ho
 have q:∃ns bs,WIn u o ns bs∧mayW o ns=true:=⟨ns,bs,h1,h2⟩
 simp only[dif_pos q]
 exact q.choose_spec.choose_spec
def isW (o:OG):Bool:=decide (o.kd=4)
def vcs (nsf:OG→List Int) (bsf:OG→List (BitVec 8)) (l:List OG):List VC:=(l.filter isW).map λo=>vcOf o (nsf o) (bsf o)
section
variable {nsf:OG→List Int} {bsf:OG→List (BitVec 8)}
theorem vcs_snoc (l:List OG) (o:OG):vcs nsf bsf (l++[o])=if o.kd=4 then vcs nsf bsf l++[vcOf o (nsf o) (bsf o)]else vcs nsf bsf l:=by
 unfold vcs
 rw[List.filter_append]
 by_cases h:o.kd=4
 ·rw[if_pos h];simp[isW,h]
 ·rw[if_neg h];simp[isW,h]
theorem vcs_len (l:List OG):(vcs nsf bsf l).length≤l.length:=by
 unfold vcs
 rw[List.length_map]
 exact List.length_filter_le _ _
theorem vcs_key {l:List OG} {k:KP} (h:k∈(vcs nsf bsf l).map VC.key):∃o∈l,(o.t,o.n)=k:=by
 unfold vcs at h
 rw[List.mem_map]at h
 obtain⟨c,hc,rfl⟩:=h
 rw[List.mem_map]at hc
 obtain⟨o,ho,rfl⟩:=hc
 exact⟨o,(List.mem_filter.1 ho).1,rfl⟩
theorem pairwise_at {l:List OG} (h:l.Pairwise λa b=>(a.t,a.n)≠(b.t,b.n)) {i:Nat} {x:OG} (hx:l[i]? =some x):∀y∈l.take i,(y.t,y.n)≠(x.t,x.n):=by
 intro y hy
 obtain⟨j,hj,e⟩:=List.getElem_of_mem hy
 rw[List.length_take]at hj
 obtain⟨hi,ex⟩:=List.getElem?_eq_some_iff.1 hx
 have:=List.pairwise_iff_getElem.1 h j i (by omega) hi (by omega)
 rw[ex]at this
 rw[List.getElem_take]at e
 rw[e]at this
 exact this
end
structure Two (u wr:World) (base fb gb:Nat) (v:Value) (l:List OG) (F G:Nat→Prop) (S T:List VC):Prop where
 f:FileS F wr fb S
 g:FileS G wr gb T
 apart:∀b,F b→¬G b
 fu:∀b,F b→u.heap.size≤b
 gu:∀b,G b→u.heap.size≤b
 row:RowG wr base v l
 below:Below u.heap.size u wr
section
variable {u wr:World} {base fb gb:Nat} {v:Value} {l:List OG} {F G:Nat→Prop} {S T:List VC}
end
section
variable {u wr:World} {base fb gb:Nat} {v:Value} {nsf:OG→List Int} {bsf:OG→List (BitVec 8)} {l:List OG} {i j:Nat}
end
end Go.Proofs.YthhakekbffembaaGreatDoor.Ck.Y.L
