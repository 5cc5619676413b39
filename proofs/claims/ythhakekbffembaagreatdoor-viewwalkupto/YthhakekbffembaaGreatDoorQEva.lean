import Derived.Test.YthhakekbffembaaGreatDoorQPz6
import Derived.Test.YthhakekbffembaaGreatDoorQOmx
set_option maxRecDepth 8000
set_option maxHeartbeats 8000000

namespace Go.Proofs.YthhakekbffembaaGreatDoor.Ck.Y
open Go.RowKit Go.Maps Go.Lib
abbrev okT (t:TypeId):Prop:=t=77∨t=117∨t=152∨t=158∨t=161∨t=131∨t=125
abbrev okV (t:TypeId):Prop:=okT t∨t=148∨t=92
def bZz (F:Nat→Prop) (w:World) (b:Nat):Prop:=F b∧∀cs t fr,w.heap[b]? =some (.cells cs t fr)→okT t
theorem cmz {F:Nat→Prop} {w:World} {b:Nat} {cs:Array Value} {t:TypeId} {fr:Nat×Nat} (h:F b) (hb:w.heap[b]? =some (.cells cs t fr)) (ht:okT t):bZz F w b:=
 ⟨h,λcs' t' fr' h'=>by rw[hb]at h';cases h';exact ht⟩
theorem laz {t:TypeId} (h:okV t):t≠2∧t≠5:=by
 rcases h with(h|h|h|h|h|h|h)|h|h<;>rw[h]<;>decide
theorem hZz (F:Nat→Prop) (w:World):L.Hard w (bZz F w):=λ_ hb cs t ht=>laz (.inl (hb.2 cs t _ ht))
def bWz (e:SR):SR:=⟨e.o,e.sb,if mkK e.o=true∨e.o.kd=3 then e.x else e.sb,e.did,e.fu,e.fn⟩
theorem muz (e:SR):doF e.o (bWz e).x=doF e.o e.x:=by
 unfold doF bWz
 by_cases h1:mkK e.o=true
 ·simp[h1]
 ·by_cases h3:e.o.kd=3
  ·simp[h3]
  ·simp[h1,h3]
theorem n6z (e:SR):unF e.o (bWz e).x=unF e.o e.x:=by
 unfold unF bWz
 by_cases h1:mkK e.o=true
 ·simp[h1]
 ·by_cases h3:e.o.kd=3
  ·simp[h3]
  ·simp[h1,h3]
theorem j1z {e:SR} (h:mkK e.o=true):(bWz e).x=e.x:=by unfold bWz;simp[h]
theorem iKz {e:SR} (h:e.o.kd=3):(bWz e).x=e.x:=by unfold bWz;simp[h]
theorem nqz {e:SR} (h:mkK e.o=false) (h3:¬e.o.kd=3):(bWz e).x=e.sb:=by unfold bWz;simp[h,h3]
section
variable {F FO:Nat→Prop} {w w':World} {gt:Nat} {v:Value} {L:List SR} {U:List PI} {bl:PI→Nat} {kv:PI→Value} {dr:PI→Bool}
theorem SM.xtag (h:SM F FO w gt v L U bl dr) {e:SR} (he:e∈L):∃cs t,w.heap[(bWz e).x]? =some (.cells cs t (0,0))∧(t=158∨t=161∨(t=152∧(bWz e).x=e.sb))∧((bWz e).x=e.x∨(bWz e).x=e.sb):=by
 have hs:=h.st e he
 cases h1:mkK e.o with
 |true=>rw[j1z h1];exact⟨_,_,hs.mkat h1,.inl rfl,.inl rfl⟩
 |false=>
  by_cases h3:e.o.kd=3
  ·rw[iKz h3];exact⟨_,_,hs.mvat h3,.inr (.inl rfl),.inl rfl⟩
  ·rw[nqz h1 h3];exact⟨_,_,hs.blk,.inr (.inr ⟨rfl,rfl⟩),.inr rfl⟩
theorem SM.tight (h:SM F FO w gt v L U bl dr) {cs:Array Value} (hg:w.heap[gt]? =some (.cells cs 77 (0,0))):SM (bZz F w) (bZz FO w) w gt v (L.map bWz) U bl dr:=by
 have mem:∀e∈L.map bWz,∃e0∈L,e=bWz e0:=λe he=>by
  obtain⟨e0,h0,rfl⟩:=List.mem_map.1 he
  exact⟨e0,h0,rfl⟩
 refine⟨?_,λe he=> ?_, ?_, ?_,λe he=> ?_,by rw[List.length_map];exact h.len,λb hb=>⟨h.sub b hb.1,hb.2⟩,⟨cmz h.gtF.1 hg (by decide),λhb=>h.gtF.2 hb.1⟩,λg hgo=> ?_,λe he=> ?_,λb hb=>h.low b hb.1⟩
 ·have:(L.map bWz).map (·.sb)=L.map (·.sb):=by rw[List.map_map];rfl
  rw[this];exact h.row
 ·obtain⟨e0,h0,rfl⟩:=mem e he
  have hs:=h.st e0 h0
  refine⟨?_,λk=> ?_,λk=> ?_⟩
  ·have e1:(bWz e0).o=e0.o:=rfl
   have e2:(bWz e0).sb=e0.sb:=rfl
   have e3:(bWz e0).did=e0.did:=rfl
   rw[e1,e2,e3,muz,n6z]
   exact hs.blk
  ·rw[j1z (e:=e0) k];exact hs.mkat k
  ·rw[iKz (e:=e0) k];exact hs.mvat k
 ·rw[List.pairwise_map]
  refine List.Pairwise.imp_of_mem (λ{a b} ha hb hab=>⟨hab.1, ?_⟩) h.nd
  obtain⟨c1,t1,a1,a2,a3⟩:=h.xtag ha
  obtain⟨c2,t2,b1,b2,b3⟩:=h.xtag hb
  intro e
  rw[e]at a1
  rw[a1]at b1
  cases b1
  rcases a2 with a2|a2|a2<;>rcases b2 with b2|b2|b2
  ·rcases a3 with a3|a3
   ·rcases b3 with b3|b3
    ·exact hab.2 (by rw[← a3,← b3,e])
    ·have:=h.st b hb;rw[← b3]at this;rw[this.blk]at a1;cases a1;exact absurd a2 (by decide)
   ·have:=h.st a ha;rw[← a3,e]at this;rw[this.blk]at a1;cases a1;exact absurd a2 (by decide)
  ·exact absurd (a2.symm.trans b2) (by decide)
  ·exact absurd (a2.symm.trans b2.1) (by decide)
  ·exact absurd (a2.symm.trans b2) (by decide)
  ·rcases a3 with a3|a3
   ·rcases b3 with b3|b3
    ·exact hab.2 (by rw[← a3,← b3,e])
    ·have:=h.st b hb;rw[← b3]at this;rw[this.blk]at a1;cases a1;exact absurd a2 (by decide)
   ·have:=h.st a ha;rw[← a3,e]at this;rw[this.blk]at a1;cases a1;exact absurd a2 (by decide)
  ·exact absurd (a2.symm.trans b2.1) (by decide)
  ·exact absurd (b2.symm.trans a2.1) (by decide)
  ·exact absurd (b2.symm.trans a2.1) (by decide)
  ·exact hab.1 (by rw[← a2.2,← b2.2,e])
 ·rw[List.pairwise_map]
  exact h.rise
 ·obtain⟨e0,h0,rfl⟩:=mem e he
  exact h.ok e0 h0
 ·obtain⟨_,_,cur,ht⟩:=h.row.tag hgo
  exact⟨cmz (h.rowF g hgo).1 ht (by decide),λhb=>(h.rowF g hgo).2 hb.1⟩
 ·obtain⟨e0,h0,rfl⟩:=mem e he
  have hF:=h.stF e0 h0
  obtain⟨cs,t,a1,a2,a3⟩:=h.xtag h0
  have ht:okT t:=by rcases a2 with rfl|rfl|⟨rfl,_⟩<;>decide
  refine⟨cmz hF.1 (h.st e0 h0).blk (by decide),λhb=>hF.2.1 hb.1, ?_, ?_⟩
  ·refine cmz ?_ a1 ht
   rcases a3 with a3|a3<;>rw[a3]
   ·exact hF.2.2.1
   ·exact hF.1
  ·intro hb
   rcases a3 with a3|a3<;>rw[a3]at hb
   ·exact hF.2.2.2 hb.1
   ·exact hF.2.1 hb.1
theorem ObjsM.tight {pf pk:PI→PL} (h:ObjsM F w U bl kv dr pf pk):ObjsM (bZz F w) w U bl kv dr pf pk:=by
 refine⟨h.inj,h.obj,h.kid,h.apart,λq hq=>⟨cmz (h.own q hq).1 (h.obj q hq) (by decide),λg hg=> ?_⟩,h.len⟩
 obtain⟨m,_,hr⟩:=h.kid q hq
 obtain⟨_,_,cur,ht⟩:=hr.tag hg
 exact cmz ((h.own q hq).2 g hg) ht (by decide)
theorem TreeM.tight {mb:Nat} {B:List PI} {T:List OB} (h:TreeM F w mb B U bl kv dr T):TreeM (bZz F w) w mb B U bl kv dr T:=
 ⟨h.objs.tight.mono λb hb=>⟨⟨hb.1.1,hb.2⟩,hb.1.2⟩,h.map,⟨h.fmb,λcs t fr hm=>by obtain⟨es,c,hb,_⟩:=h.map;rw[hb]at hm;cases hm⟩,h.bb,h.rt,h.ids,h.drs,h.wf⟩
theorem DoneT.fix {T:List OB} {s:Nat} (h:DoneT bl U L T s):DoneT bl U (L.map bWz) T s:=by
 induction h with
 |nil=>exact .nil
 |snoc h1 h2 ih=>rw[List.map_append];exact .snoc (e:=bWz _) ih h2
end
variable {F:Nat→Prop} {w:World} {l:List OG}
theorem TW.tight {gt:VB} (h:TW F w gt l):TW (bZz F w) w gt l:=by
 rcases h with⟨U,bl,dr,h⟩|⟨d,T,s,mb,B,U,bl,dr,h⟩
 ·obtain⟨FO,kv,L,v,h1,h2,h3,h4⟩:=h.out
  exact .inl ⟨U,bl,dr,⟨bZz FO w,kv,L.map bWz,v,h1.tight h3,by rw[← h2,List.map_map];rfl,h3,h4.tight⟩,h.uid,h.ul⟩
 ·obtain⟨FO,kv,L,v,h1,h2,h3,h4,h5⟩:=h.out
  exact .inr ⟨d,T,s,mb,B,U,bl,dr,⟨bZz FO w,kv,L.map bWz,v,h1.tight h3,by rw[← h2,List.map_map];rfl,h3,by rw[← List.map_take];exact h4.fix,h5.tight⟩,h.dl,h.sd,h.uid,h.ul⟩
theorem TW.cells {gt:VB} (h:TW F w gt l):F gt.b∧w.cell? ⟨gt.b,4,none⟩=some gt.fv∧w.cell? ⟨gt.b,5,none⟩=some gt.cn∧(∀k,w.frozen? ⟨gt.b,k,none⟩=false)∧l.length≤800:=by
 rcases h with⟨U,bl,dr,h⟩|⟨d,T,s,mb,B,U,bl,dr,h⟩
 ·obtain⟨FO,kv,L,v,h1,h2,h3,h4⟩:=h.out
  exact⟨h1.gtF.1,cellOf h3 4,cellOf h3 5,λk=>aez h3 k,by rw[← h2,List.length_map];exact h1.len⟩
 ·obtain⟨FO,kv,L,v,h1,h2,h3,h4,h5⟩:=h.out
  exact⟨h1.gtF.1,cellOf h3 4,cellOf h3 5,λk=>aez h3 k,by rw[← h2,List.length_map];exact h1.len⟩
theorem dZz (w:World) (b k:Nat) (v:Value):Only (· =b) w (w.setCell ⟨b,k,none⟩ v):=Only.setCell (S:=(· =b)) _ _ _ rfl
theorem TW.setFiles {b:Nat} {fv cn:Value} (h:TW F w ⟨b,fv,cn⟩ l) (fv':Value):TW F (w.setCell ⟨b,4,none⟩ fv') ⟨b,fv',cn⟩ l:=by
 have hO:=dZz w b 4 fv'
 rcases h with⟨U,bl,dr,h⟩|⟨d,T,s,mb,B,U,bl,dr,h⟩
 ·obtain⟨FO,kv,L,v,h1,h2,h3,h4⟩:=h.out
  exact .inl ⟨U,bl,dr,⟨FO,kv,L,v,h1.kept hO (λ_ e=>.inl e) ⟨_,h3⟩,h2,a7z (k:=4) h3 fv',h4.kept hO λc hc e=>h1.gtF.2 (by rw[← show c=b from e];exact hc)⟩,h.uid,h.ul⟩
 ·obtain⟨FO,kv,L,v,h1,h2,h3,h4,h5⟩:=h.out
  exact .inr ⟨d,T,s,mb,B,U,bl,dr,⟨FO,kv,L,v,h1.kept hO (λ_ e=>.inl e) ⟨_,h3⟩,h2,a7z (k:=4) h3 fv',h4,h5.kept hO λc hc e=>h1.gtF.2 (by rw[← show c=b from e];exact hc)⟩,h.dl,h.sd,h.uid,h.ul⟩
theorem TW.setCount {b:Nat} {fv cn:Value} (h:TW F w ⟨b,fv,cn⟩ l) (cn':Value):TW F (w.setCell ⟨b,5,none⟩ cn') ⟨b,fv,cn'⟩ l:=by
 have hO:=dZz w b 5 cn'
 rcases h with⟨U,bl,dr,h⟩|⟨d,T,s,mb,B,U,bl,dr,h⟩
 ·obtain⟨FO,kv,L,v,h1,h2,h3,h4⟩:=h.out
  exact .inl ⟨U,bl,dr,⟨FO,kv,L,v,h1.kept hO (λ_ e=>.inl e) ⟨_,h3⟩,h2,a7z (k:=5) h3 cn',h4.kept hO λc hc e=>h1.gtF.2 (by rw[← show c=b from e];exact hc)⟩,h.uid,h.ul⟩
 ·obtain⟨FO,kv,L,v,h1,h2,h3,h4,h5⟩:=h.out
  exact .inr ⟨d,T,s,mb,B,U,bl,dr,⟨FO,kv,L,v,h1.kept hO (λ_ e=>.inl e) ⟨_,h3⟩,h2,a7z (k:=5) h3 cn',h4,h5.kept hO λc hc e=>h1.gtF.2 (by rw[← show c=b from e];exact hc)⟩,h.dl,h.sd,h.uid,h.ul⟩
theorem TW.fresh (w:World):TW (· =w.heap.size) (w.alloc (.cells #[.map none,.slice none 0 0,.int .i64 0,.int .i64 0,.map none,.int .i64 0] 77)) ⟨w.heap.size,.map none,.int .i64 0⟩ []:=by
 refine .inl ⟨[],λ_=>0,λ_=>false,⟨λ_=>False,λ_=>.slice none 0 0,[],.slice none 0 0,⟨RowP.nil _ _ _,(λe he=>by simp at he),List.Pairwise.nil,List.Pairwise.nil,(λe he=>by simp at he),Nat.zero_le _,(λb hb=>hb.elim),⟨rfl,λf=>f⟩,(λg hg=>by cases hg),(λe he=>by simp at he),λb hb=>by rw[show b=w.heap.size from hb];simp⟩,rfl,heap_alloc_new w _, ?_⟩,(λq hq=>by simp at hq),Nat.le_refl _⟩
 exact⟨(λq hq=>by simp at hq),(λq hq=>by simp at hq),(λq hq=>by simp at hq),(λq hq=>by simp at hq),(λq hq=>by simp at hq),Nat.zero_le _⟩
end Go.Proofs.YthhakekbffembaaGreatDoor.Ck.Y

namespace Go.Proofs.YthhakekbffembaaGreatDoor.Ck.Y.L
open Go.RowKit Go.Maps Go.Lib
def nm2:List UInt8:=[111,108,100]
def ob (t n:Int) (gb cc l:Nat):OG:=⟨t,n,1,4,1,9,0,0,⟨#[]⟩,some ⟨gb,0,none⟩,l,cc,none,0,0⟩
end Go.Proofs.YthhakekbffembaaGreatDoor.Ck.Y.L

namespace Go.Proofs.YthhakekbffembaaGreatDoor.Ck.Y.L
open Go.RowKit Go.Maps Go.Lib
theorem nUz (w:World):WIn w ⟨0,0,0,0,0,0,0,0,⟨#[]⟩,none,0,0,none,0,0⟩ [] []:=⟨λh=>absurd h (by simp),rfl,by simp,by simp,λh=>absurd h (by simp),rfl,by simp,by simp,Nat.zero_le _⟩
theorem heads_nil (w:World):Calls Tryz.prog 56 #[.pointer none] w λe w'=>e=.returned (.slice none 0 0)∧Below w.heap.size w w':=by
 go_enter Tryz.func56,Tryz.ntmps56
 go_wp2
 go_ret
 exact⟨rfl,Below.refl _ _⟩
theorem gRz (w:World):Calls Tryz.prog 95 #[.pointer none] w λe w'=>e=.returned (.agg #[.int .i64 0,.int .i64 0,.int .i64 0,.slice none 0 0,.slice none 0 0])∧Below w.heap.size w w':=by
 go_enter Tryz.func95,Tryz.ntmps95
 go_wp2
 refine bodyPost_ret (v:=.agg #[.int .i64 0,.int .i64 0,.int .i64 0,.slice none 0 0,.slice none 0 0]) (by simp[results,Tryz.results95,go_sem]) rfl ?_
 exact⟨rfl,(a3z w _).out⟩
theorem value_nil (w:World):Calls Tryz.prog 54 #[.pointer none] w λe w'=>e=.returned (.slice none 0 0)∧Below w.heap.size w w':=by
 have c1:=gRz w
 have f3:=kez
 have HC:Hid (∀W,Calls Tryz.prog 94 #[.slice none 0 0] W λe w'=>e=.returned (.slice none 0 0)∧Below W.heap.size W w'):=λW=>by
  have qT:∀(w:World) (a:Option Addr) (n c n' c':Nat),(binOp .eql 29 (.slice a n c) (.slice none n' c')).run Tryz.prog w=.ok (.bool a.isNone) w:=λw a n c n' c'=>Lib.run_eql_slice_nil w _ _ a n c n' c' Tryz.underlying29
  clear c1 f3
  go_enter Tryz.func94,Tryz.ntmps94
  go_wp2
  go_ret
  exact⟨rfl,Below.refl _ _⟩
 go_enter Tryz.func54,Tryz.ntmps54
 go_wp2_with (first
  |(go_at_call 95;refine acz c1 ?_;clear c1;intro w1 HB1)
  |(go_at_call 94;refine acz (HC.out _) ?_;clear HC;intro w2 HB2))
 go_ret
 exact⟨rfl,a2z HB1.out HB2.out⟩
theorem size_nil (w:World):Calls Tryz.prog 55 #[.pointer none] w λe w'=>e=.returned (.int .i64 0)∧Below w.heap.size w w':=by
 have c1:=gRz w
 have f3:=kez
 go_enter Tryz.func55,Tryz.ntmps55
 go_wp2_with (go_at_call 95;refine acz c1 ?_;clear c1;intro w1 HB1)
 go_ret
 exact⟨rfl,HB1.out⟩
theorem hd_nil:IsHd [] []:=⟨List.Pairwise.nil,λx=>by simp⟩
def zop:OG:=⟨0,0,0,0,0,0,0,0,⟨#[]⟩,none,0,0,none,0,0⟩
theorem o0z:zop.kd≠4:=by unfold zop;simp
theorem mgz (fb:Nat) (w:World):Calls Tryz.prog 74 #[.pointer (some ⟨fb,0,none⟩),b2z zop] w λe w'=>e=.returned (.int .i64 22)∧Below w.heap.size w w':=npz (o:=zop) (ns:=[]) (bs:=[]) (nUz w) (Or.inl o0z)
theorem add_zero (fb:Nat) (w:World):Calls Tryz.prog 74 #[.pointer (some ⟨fb,0,none⟩),.agg #[.int .i64 0,.int .i64 0,.int .i64 0,.int .i64 0,.int .i64 0,.int .i64 0,.int .i64 0,.int .i64 0,.string ⟨#[]⟩,.slice none 0 0,.slice none 0 0]] w λe w'=>e=.returned (.int .i64 22)∧Below w.heap.size w w':=mgz fb w
end Go.Proofs.YthhakekbffembaaGreatDoor.Ck.Y.L

namespace Go.Proofs.YthhakekbffembaaGreatDoor.Cd
open Go.RowKit Go.Maps
attribute [local go_sem] Oper.semAt_some
theorem kPz (p:Option Addr) (l c:Nat) (n:Nat) (w:World) (h:l≤n):
  Calls Tryz.prog 58 #[.slice p l c,.int .i64 n] w λe w'=>e=.returned (.slice p l c)∧w'=w:=by
 have hI:¬(n:Int)<l:=by omega
 go_enter Tryz.func58,Tryz.ntmps58
 go_wp2
 go_ret
 exact⟨rfl,rfl⟩
theorem l9z (g o:Nat) (l c:Nat) (n:Nat) (w:World) (h:n<l) (hn:n<1000000) (hc:l≤c):
  Calls Tryz.prog 58 #[.slice (some ⟨g,o,none⟩) l c,.int .i64 n] w λe w'=>e=.returned (.slice (some ⟨g,o,none⟩) n c)∧w'=w:=by
 have hI:(n:Int)<l:=by omega
 go_enter Tryz.func58,Tryz.ntmps58
 go_wp2
 go_ret
 exact⟨rfl,rfl⟩
theorem k4z (p:Option Addr) (bs:List (BitVec 8)) (c n:Nat) (w:World) (hc:bs.length≤c) (hn6:n<1000000) (hb:Bytes w p bs):
  (Calls Tryz.prog 58 #[.slice p bs.length c,.int .i64 n] w λe w'=>e=.returned (.slice p (bs.take n).length c)∧w'=w)∧Bytes w p (bs.take n)∧(bs.take n).length≤c∧(bs.take n).length≤n:=by
 refine⟨?_,bytes_take hb n,by simp;omega,by simp;omega⟩
 by_cases h:bs.length≤n
 ·rw[List.take_of_length_le h]
  exact kPz p bs.length c n w h
 ·obtain⟨g,o,rfl,_⟩:=hb (by omega)
  rw[List.length_take,Nat.min_eq_left (by omega)]
  exact l9z g o bs.length c n w (by omega) hn6 hc
theorem OpB.frz {W:World} {g:Nat} {t n sq kd ot on pt pn:Int} {nm:List UInt8} {p q:Option Addr} {l c m d:Nat} (h:OpB W g t n sq kd ot on pt pn nm p q l c m d):W.frozen? ⟨g,0,none⟩=false∧W.frozen? ⟨g,1,none⟩=false∧W.frozen? ⟨g,2,none⟩=false∧W.frozen? ⟨g,3,none⟩=false∧W.frozen? ⟨g,4,none⟩=false∧W.frozen? ⟨g,5,none⟩=false∧W.frozen? ⟨g,6,none⟩=false∧W.frozen? ⟨g,7,none⟩=false∧W.frozen? ⟨g,8,none⟩=false∧W.frozen? ⟨g,9,none⟩=false∧W.frozen? ⟨g,10,none⟩=false:=by
 have f:=aez h
 exact⟨f 0,f 1,f 2,f 3,f 4,f 5,f 6,f 7,f 8,f 9,f 10⟩
theorem cut12_any (t n sq kd ot on pt pn:Int) (nm:List UInt8) (p q:Option Addr) (l c m d:Nat) (data:List (BitVec 8)) (ns:List Int) (w:World) (hl:l=data.length) (hlc:data.length≤c) (hm:m=ns.length) (hmd:ns.length≤d) (hml:ns.length≤maxLen) (hp:Bytes w p data):
  Calls Tryz.prog 25 #[.agg #[.int .i64 t,.int .i64 n,.int .i64 sq,.int .i64 kd,.int .i64 ot,.int .i64 on,.int .i64 pt,.int .i64 pn,.string (bas nm),.slice p l c,.slice q m d]] w λe w'=>e=.returned (.agg #[.int .i64 t,.int .i64 n,.int .i64 sq,.int .i64 kd,.int .i64 ot,.int .i64 on,.int .i64 pt,.int .i64 pn,.string (bas (nm.take 100)),.slice p (data.take 3000).length c,.slice q (Vc.cut ns).length d])∧Below w.heap.size w w':=by
 obtain⟨W0,hW⟩:∃W0,W0=(w.alloc (.cells #[.int .i64 t,.int .i64 n,.int .i64 sq,.int .i64 kd,.int .i64 ot,.int .i64 on,.int .i64 pt,.int .i64 pn,.string (bas nm),.slice p l c,.slice q m d] 33)).alloc (.cells #[.int .i64 0,.int .i64 0,.int .i64 0,.int .i64 0,.int .i64 0,.int .i64 0,.int .i64 0,.int .i64 0,.string ⟨#[]⟩,.slice none 0 0,.slice none 0 0] 33):=⟨_,rfl⟩
 have B0:Below w.heap.size w W0:=by rw[hW];exact((Below.refl _ _).alloc (Nat.le_refl _) _).alloc (by simp) _
 have H1:OpB W0 w.heap.size t n sq kd ot on pt pn nm p q l c m d:=by rw[hW];exact(OpB.made w t n sq kd ot on pt pn nm p q l c m d).below ((Below.refl _ _).alloc (Nat.le_refl _) _)
 have H2:OpB W0 (w.heap.size+1) 0 0 0 0 0 0 0 0 [] none none 0 0 0 0:=by rw[hW];exact OpB.next w _ 0 0 0 0 0 0 0 0 [] none none 0 0 0 0
 obtain⟨cS,_⟩:=k4z p data c 3000 W0 hlc (by decide) (below_bytes B0 hp)
 have cC:=λW=>Vc.cut_any q ns d W hmd hml
 rw[← hl]at cS
 rw[← hm]at cC
 obtain⟨l1,hl1⟩:∃l1,(data.take 3000).length=l1:=⟨_,rfl⟩
 obtain⟨m1,hm1⟩:∃m1,(Vc.cut ns).length=m1:=⟨_,rfl⟩
 rw[hl1]at cS
 rw[hm1]at cC
 rw[hl1,hm1]
 have hsz:=bas_size nm
 clear hl1 hm1 hl hlc hm hmd hml hp
 have⟨x0,x1,x2,x3,x4,x5,x6,x7,x8,x9,x10⟩:=H1.cells
 have⟨_,_,_,_,_,_,_,_,f8,f9,f10⟩:=H1.frz
 have⟨z0,z1,z2,z3,z4,z5,z6,z7,zs,z9,z10⟩:=H2.cells
 have z8:W0.cell? ⟨w.heap.size+1,8,none⟩=some (.string ⟨#[]⟩):=zs
 have⟨y0,y1,y2,y3,y4,y5,y6,y7,y8,y9,y10⟩:=H2.frz
 clear B0 H1 H2 zs
 subst hW
 by_cases h:100<nm.length
 ·have hI:(100:Int)<(nm.length:Int):=by omega
  have h90:100≤(bas nm).size:=by omega
  have HN:Hid ((bas nm).extract 0 100=bas (nm.take 100)):=by
   show _=_
   unfold bas
   rw[show((⟨nm.toArray⟩:ByteArray).extract 0 100)=⟨(nm.toArray).extract 0 100⟩ by ext1;simp[ByteArray.data_extract]]
   simp
  go_enter Tryz.func25,Tryz.ntmps25
  go_wp2_with (first|(go_at_call 58;refine adz cS ?_;clear cS)|(go_at_call 59;refine adz (cC _) ?_))
  refine bodyPost_ret (v:=.agg #[.int .i64 t,.int .i64 n,.int .i64 sq,.int .i64 kd,.int .i64 ot,.int .i64 on,.int .i64 pt,.int .i64 pn,.string ((bas nm).extract 0 100),.slice p l1 c,.slice q m1 d]) (by simp[results,Tryz.results25,go_sem]) rfl ?_
  refine⟨by rw[HN.out], ?_⟩
  exact((Below.refl _ _).alloc (Nat.le_refl _) _).alloc (by simp) _
 ·have hI:¬(100:Int)<(nm.length:Int):=by omega
  have HN:Hid (nm.take 100=nm):=List.take_of_length_le (by omega)
  rw[HN.out]
  go_enter Tryz.func25,Tryz.ntmps25
  go_wp2_with (first|(go_at_call 58;refine adz cS ?_;clear cS)|(go_at_call 59;refine adz (cC _) ?_))
  refine bodyPost_ret (v:=.agg #[.int .i64 t,.int .i64 n,.int .i64 sq,.int .i64 kd,.int .i64 ot,.int .i64 on,.int .i64 pt,.int .i64 pn,.string (bas nm),.slice p l1 c,.slice q m1 d]) (by simp[results,Tryz.results25,go_sem]) rfl ?_
  refine⟨rfl, ?_⟩
  exact((Below.refl _ _).alloc (Nat.le_refl _) _).alloc (by simp) _
end Go.Proofs.YthhakekbffembaaGreatDoor.Cd

namespace Go.Proofs.YthhakekbffembaaGreatDoor.Ck.Y.L
open Go.RowKit Go.Maps Go.Lib
variable {w:World} {o:OG} {ns:List Int} {bs:List (BitVec 8)}
structure RawIn (w:World) (o:OG) (ns:List Int) (bs:List (BitVec 8)):Prop where
 seen:Cd.Lies w o.sp (ns.map Cd.iv)
 sl:ns.length=o.sl
 sc:ns.length≤o.sc
 le:ns.length≤maxLen
 data:Cd.Bytes w o.dp bs
 dl:bs.length=o.dl
 dc:bs.length≤o.dc
theorem RawIn.below {w':World} (h:RawIn w o ns bs) (hb:Below w.heap.size w w'):RawIn w' o ns bs:=⟨Cd.below_lies hb h.seen,h.sl,h.sc,h.le,Cd.below_bytes hb h.data,h.dl,h.dc⟩
def OpsL (w:World) (p:Option Addr) (L:List OG):Prop:=0<L.length→∃g o,p=some ⟨g,o,none⟩∧∀(i:Nat) (x:OG),L[i]? =some x→(w.cell? ⟨g,o+i*11,none⟩=some (.int .i64 x.t)∧w.cell? ⟨g,o+i*11+1,none⟩=some (.int .i64 x.n)∧w.cell? ⟨g,o+i*11+2,none⟩=some (.int .i64 x.sq)∧w.cell? ⟨g,o+i*11+3,none⟩=some (.int .i64 x.kd)∧w.cell? ⟨g,o+i*11+4,none⟩=some (.int .i64 x.ot)∧w.cell? ⟨g,o+i*11+5,none⟩=some (.int .i64 x.on)∧w.cell? ⟨g,o+i*11+6,none⟩=some (.int .i64 x.pt)∧w.cell? ⟨g,o+i*11+7,none⟩=some (.int .i64 x.pn)∧w.cell? ⟨g,o+i*11+8,none⟩=some (.string x.nm)∧w.cell? ⟨g,o+i*11+9,none⟩=some (.slice x.dp x.dl x.dc)∧w.cell? ⟨g,o+i*11+10,none⟩=some (.slice x.sp x.sl x.sc))∧∃ns bs,RawIn w x ns bs
theorem OpsL.below {w':World} {p:Option Addr} {L:List OG} (h:OpsL w p L) (hb:Below w.heap.size w w'):OpsL w' p L:=by
 intro hl
 obtain⟨g,o,e,hc⟩:=h hl
 refine⟨g,o,e,λi x hx=> ?_⟩
 obtain⟨⟨a0,a1,a2,a3,a4,a5,a6,a7,a8,a9,a10⟩,ns,bs,hr⟩:=hc i x hx
 exact⟨⟨a5z a0 hb,a5z a1 hb,a5z a2 hb,a5z a3 hb,a5z a4 hb,a5z a5 hb,a5z a6 hb,a5z a7 hb,a5z a8 hb,a5z a9 hb,a5z a10 hb⟩,ns,bs,hr.below hb⟩
def ofz (o:OG) (ns:List Int) (bs:List (BitVec 8)):OG:={o with nm:=Cd.bas (o.nm.data.toList.take 100),dl:=(bs.take 3000).length,sl:=(Vc.cut ns).length}
theorem RawIn.cut (h:RawIn w o ns bs):WIn w (ofz o ns bs) (Vc.cut ns) (bs.take 3000):=by
 have h1:(Vc.cut ns).length≤80:=Vc.cut_le ns
 have h2:(bs.take 3000).length≤3000:=by rw[List.length_take];omega
 refine⟨?_,rfl, ?_,by omega,Cd.bytes_take h.data 3000,rfl, ?_,by omega, ?_⟩
 ·unfold Vc.cut
  have:=Cd.lies_take h.seen 80
  rwa [← List.map_take]at this
 ·have:=h.sc
  have:(Vc.cut ns).length≤ns.length:=by unfold Vc.cut;rw[List.length_take];omega
  show _≤o.sc;omega
 ·have:=h.dc
  have:(bs.take 3000).length≤bs.length:=by rw[List.length_take];omega
  show _≤o.dc;omega
 ·show(Cd.bas (o.nm.data.toList.take 100)).size≤1000000
  rw[Cd.bas_size,List.length_take];omega
theorem l3z (h:RawIn w o ns bs):Calls Tryz.prog 25 #[b2z o] w λe w'=>e=.returned (b2z (ofz o ns bs))∧Below w.heap.size w w':=by
 have:=Cd.cut12_any o.t o.n o.sq o.kd o.ot o.on o.pt o.pn o.nm.data.toList o.dp o.sp o.dl o.dc o.sl o.sc bs ns w h.dl.symm h.dc h.sl.symm h.sc h.le h.data
 rw[Cd.bas_of]at this
 exact this
theorem k1z (h:WIn w o ns bs) (h1:ns.length≤1000):Calls Tryz.prog 26 #[b2z o] w λe w'=>e=.returned (.bool (mayW o ns))∧Below w.heap.size w w':=by
 have:=Cd.rmay_any o.t o.n o.sq o.kd o.ot o.on o.pt o.pn o.nm.data.toList o.dp o.sp o.dl o.dc o.sl o.sc ns w (by rw[← Lib.size_eq];have:=h.nm;omega) (by have:=h.dl;have:=h.bl;omega) h.sl h1 h.seen
 rw[Cd.bas_of]at this
 exact this
structure Taken (w:World) (l:List OG):Prop where
 each:∀o∈l,∃ns bs,WIn w o ns bs∧mayW o ns=true∧ns.length≤80
 apart:l.Pairwise λa b=>(a.t,a.n)≠(b.t,b.n)
def SmI (u0 w wr:World) (v:Value) (M:List OG) (most:Nat):Prop:=RowG wr w.heap.size v M∧Taken u0 M∧M.length≤most∧Below w.heap.size w wr
theorem SmI.step {u0 wr w2 w3:World} {v:Value} {M:List OG} {most:Nat} (h:SmI u0 w wr v M most) {x:OG} (hx:WIn u0 x ns bs) (hm:mayW x ns=true) (hn:ns.length≤80) (ha:∀y∈M,(y.t,y.n)≠(x.t,x.n)) (hl:M.length<most) (b2:Below wr.heap.size wr w2) {p:Option Addr} {c:Nat}
  (hr:RowG w3 w.heap.size (.slice p (M.length+1) c) (M++[x])) (hg:(w2.alloc (.cells (bhz x) 33)).grownBy w3 v.ownBlock):SmI u0 w w3 (.slice p (M.length+1) c) (M++[x]) most:=by
 obtain⟨h1,h2,h3,h4⟩:=h
 have b3:Below w2.heap.size w2 (w2.alloc (.cells (bhz x) 33)):=(a3z _ _).out
 have hO:Only (λb=>v.ownBlock=some b) (w2.alloc (.cells (bhz x) 33)) w3:=⟨hg.os,hg.tape,hg.output,hg.size,λk hk hn=>hg.block k hk (λe=>hn e.symm)⟩
 have hr2:=(h1.below b2).below b3
 refine⟨hr,⟨λo ho=> ?_,List.pairwise_append.2 ⟨h2.apart,by simp,λa ha' b hb=> ?_⟩⟩,by rw[List.length_append];simp;omega, ?_⟩
 ·rcases List.mem_append.1 ho with ho|ho
  ·exact h2.each o ho
  ·have:o=x:=by simpa using ho
   subst this
   exact⟨ns,bs,hx,hm,hn⟩
 ·have:b=x:=by simpa using hb
  subst this
  exact ha a ha'
 ·have s2:=a2z h4 (a2z b2 b3)
  refine s2.trans (hO.below s2.size λb hb=> ?_)
  obtain⟨_,_,hbase⟩:=hr2.tag hb
  exact hbase
def ooz (u0 w:World) (most:Nat) (e:Ending) (w':World):Prop:=∃v l,e=.returned v∧RowG w' w.heap.size v l∧Taken u0 l∧l.length≤most∧Below w.heap.size w w'
theorem some_any (p:Option Addr) (L:List OG) (c most:Nat) (u0 w:World) (huw:Below u0.heap.size u0 w) (hp:OpsL u0 p L) (hL:L.length≤maxLen) (hm:most≤1000):
  Calls Tryz.prog 8 #[.slice p L.length c,.int .i64 (most:Nat)] w (ooz u0 w most):=by
 have HP:=a0z hp
 have HUW:=a0z huw
 have HL:=a0z hL
 have hL2:L.length≤9223372036854775807:=by unfold maxLen at hL;omega
 have HI0:Hid (SmI u0 w w (.slice none 0 0) [] most):=⟨RowG.nil _ _,⟨λo ho=>by simp at ho,List.Pairwise.nil⟩,by simp,Below.refl _ _⟩
 clear hp hL huw
 go_enter Tryz.func8,Tryz.ntmps8
 go_wp2
 go_loopw [5,6] (λll ii wr=>∃(i:Nat) (M:List OG) (p':Option Addr) (c':Nat),ll=.slice p' M.length c'∧ii=.int .i64 i∧i≤L.length∧Hid (SmI u0 w wr (.slice p' M.length c') M most)) (λ_ ii _=>L.length-(RowKit.intOf ii).toNat)
 case atStart=>exact⟨0,[],none,0,rfl,rfl,by omega,HI0⟩
 case round=>
  obtain⟨i,M,p',c',rfl,rfl,hi,HI⟩:=hrel
  generalize wr=wo at*
  by_cases hlt:i<L.length
  ·have hltI:(i:Int)<L.length:=by omega
   have HLT:=a0z hlt
   by_cases hml:M.length<most
   ·have hmlI:(M.length:Int)<most:=by omega
    have HML:=a0z hml
    obtain⟨x,hx⟩:∃x,L[i]? =some x:=⟨_,List.getElem?_eq_getElem hlt⟩
    obtain⟨g,o,rfl,hc⟩:=(HP.out.below (a2z HUW.out HI.out.2.2.2)) (by omega)
    obtain⟨⟨d0,d1,d2,d3,d4,d5,d6,d7,d8,d9,d10⟩,_⟩:=hc i x hx
    obtain⟨ns,bs,hraw⟩:∃ns bs,RawIn u0 x ns bs:=by
     obtain⟨g2,o2,_,hc2⟩:=HP.out (by omega)
     exact(hc2 i x hx).2
    have HR:=a0z hraw
    obtain⟨z,hz⟩:∃z,ofz x ns bs=z:=⟨_,rfl⟩
    have HZ:Hid (WIn u0 z (Vc.cut ns) (bs.take 3000)):=by rw[← hz];exact hraw.cut
    have ccut:=l3z (hraw.below (a2z HUW.out HI.out.2.2.2))
    rw[hz]at ccut
    have hi9:i+1≤9223372036854775807:=by omega
    clear hc hx hraw hz hlt hml
    simp only[b2z,bhz]at ccut
    obtain⟨r,hr⟩:∃r,mayW z (Vc.cut ns)=r:=⟨_,rfl⟩
    have HMAY:=a0z hr
    have HRM:Hid (∀W,Below wo.heap.size wo W→Calls Tryz.prog 26 #[b2z z] W λe w'=>e=.returned (.bool r)∧Below W.heap.size W w'):=λW hW=>by
     have:=k1z ((HZ.out.below (a2z HUW.out HI.out.2.2.2)).below hW) (Nat.le_trans (Vc.cut_le ns) (by decide))
     rwa [hr]at this
    clear hr
    simp only[b2z,bhz]at HRM
    go_wp2_with (first
     |(go_at_call 25;refine acz ccut ?_;clear ccut;intro w1 HB1)
     |(go_at_call 26;refine acz (HRM.out _ (a2z HB1.out (a3z _ _).out)) ?_;clear HRM;intro w2 HB2;have kz:=(HB2.out.block w1.heap.size (by simp)).trans (heap_alloc_new w1 (.cells (bhz z) 33));have HKZ:Hid (w2.heap[w1.heap.size]? =some (.cells (bhz z) 33 (0,0))∧Below wo.heap.size wo w2):=⟨kz,a2z HB1.out (a2z (a3z _ _).out HB2.out)⟩;clear kz d0 d1 d2 d3 d4 d5 d6 d7 d8 d9 d10))
    go_loopw [8,9] (λbb kk wr=>∃(k:Nat) (b:Bool),bb=.bool b∧kk=.int .i64 k∧k≤M.length∧Hid (b=true→r=true∧∀(j:Nat) (y:OG),j<k→M[j]? =some y→(y.t,y.n)≠(z.t,z.n))∧Hid (Below w2.heap.size w2 wr)) (λ_ kk _=>M.length-(RowKit.intOf kk).toNat)
    case atStart=>exact⟨0,r,rfl,rfl,by omega,(show _→_ from λh=>⟨h,λj y hj=>by omega⟩),Below.refl _ _⟩
    case round=>
     obtain⟨k,b,rfl,rfl,hk,HU,HB⟩:=hrel
     have hbw:Below wo.heap.size wo wr:=a2z HKZ.out.2 HB.out
     have HBW:=a0z hbw
     have kz:=(HB.out.block _ (block_lt HKZ.out.1)).trans HKZ.out.1
     have HKW:=a0z kz
     have hM9:M.length≤1000:=by have:=HML.out;omega
     clear hbw
     by_cases hkt:k<M.length
     ·have hktI:(k:Int)<M.length:=by omega
      have HKT:=a0z hkt
      cases b with
      |false=>
       clear kz
       go_wp2_with fail
       go_roundw
       case rel=>
        exact⟨i+1,M,p',c',rfl,by go_num,HLT.out,HI.out.1.below HBW.out,HI.out.2.1,HI.out.2.2.1,a2z HI.out.2.2.2 HBW.out⟩
       case measure=>have:=HLT.out;simp[RowKit.intOf];omega
      |true=>
       obtain⟨y,hy⟩:∃y,M[k]? =some y:=⟨_,List.getElem?_eq_getElem hkt⟩
       have HY:=a0z hy
       obtain⟨p1,c1,e1,hc⟩:=RowG.caps (HI.out.1.below HBW.out)
       cases e1
       obtain⟨gm,rfl,a0,a1,_⟩:=hc k y hy
       have z0:wr.cell? ⟨w1.heap.size,0,none⟩=some (.int .i64 z.t):=cellOf kz 0
       have z1:wr.cell? ⟨w1.heap.size,1,none⟩=some (.int .i64 z.n):=cellOf kz 1
       have hcall:=λW=>bTz y.t y.n z.t z.n W
       obtain⟨q,hq⟩:∃q,azz y.t y.n z.t z.n=q:=⟨_,rfl⟩
       rw[hq]at hcall
       have HN:Hid ((!q)=true→r=true∧∀(j:Nat) (u:OG),j<k+1→M[j]? =some u→(u.t,u.n)≠(z.t,z.n)):=λhqf=>by
        obtain⟨h1,h2⟩:=HU.out rfl
        refine⟨h1,λj u hj hu=> ?_⟩
        by_cases e:j=k
        ·subst e
         rw[HY.out]at hu;cases hu
         intro e2
         have e3:azz y.t y.n z.t z.n=true:=by unfold azz;rw[(Prod.mk.inj e2).1,(Prod.mk.inj e2).2];simp
         rw[e3]at hq
         rw[← hq]at hqf;cases hqf
        ·exact h2 j u (by omega) hu
       clear hc hy hq kz hkt
       go_wp2_with fail
       have HF:∀W,(W.cell? ⟨gm,k*11,none⟩=some (.int .i64 y.t)∧W.cell? ⟨gm,k*11+1,none⟩=some (.int .i64 y.n)∧W.cell? ⟨w1.heap.size,0,none⟩=some (.int .i64 z.t)∧W.cell? ⟨w1.heap.size,1,none⟩=some (.int .i64 z.n)∧Hid (Below wr.heap.size wr W))→Below wr.heap.size wr W:=λW hW=>hW.2.2.2.2.out
       have HK:∀W,Below wr.heap.size wr W→W.cell? ⟨gm,k*11,none⟩=some (.int .i64 y.t)∧W.cell? ⟨gm,k*11+1,none⟩=some (.int .i64 y.n)∧W.cell? ⟨w1.heap.size,0,none⟩=some (.int .i64 z.t)∧W.cell? ⟨w1.heap.size,1,none⟩=some (.int .i64 z.n)∧Hid (Below wr.heap.size wr W):=λW hb=>⟨a5z a0 hb,a5z a1 hb,a5z z0 hb,a5z z1 hb,hb⟩
       have HS:=λW W' h1 (h2:Hid (Below W.heap.size W W'))=>HK W' (a2z (HF W h1) h2.out)
       have S1:=HK _ (a6z wr);have S2:=HK _ (Below.refl _ _)
       go_region_held3 (λW=>W.cell? ⟨gm,k*11,none⟩=some (.int .i64 y.t)∧W.cell? ⟨gm,k*11+1,none⟩=some (.int .i64 y.n)∧W.cell? ⟨w1.heap.size,0,none⟩=some (.int .i64 z.t)∧W.cell? ⟨w1.heap.size,1,none⟩=some (.int .i64 z.n)∧Hid (Below wr.heap.size wr W))
        (first|exact S1|exact S2|assumption|exact HS _ _ (by assumption) (by assumption))
        (first|(go_at_call 15;refine acz (hcall _) ?_;intro w3 HB3))
       have HB2:Hid (Below wr.heap.size wr _):=HF _ (by assumption)
       go_wp2_with fail
       go_roundw
       case rel=>exact⟨k+1, !q,rfl,by go_num,HKT.out,HN,a2z HB.out HB2.out⟩
       case measure=>have:=HKT.out;simp[RowKit.intOf];omega
     ·obtain rfl:k=M.length:=by omega
      clear hkt
      cases b with
      |false=>
       clear kz
       go_wp2_with fail
       go_roundw
       case rel=>
        exact⟨i+1,M,p',c',rfl,by go_num,HLT.out,HI.out.1.below HBW.out,HI.out.2.1,HI.out.2.2.1,a2z HI.out.2.2.2 HBW.out⟩
       case measure=>have:=HLT.out;simp[RowKit.intOf];omega
      |true=>
       obtain⟨z0,z1,z2,z3,z4,z5,z6,z7,z8,z9,z10⟩:=bLz kz
       clear kz
       go_wp2_with (at_builtin;refine wpList_appG rfl _ _ rfl w.heap.size _ M z rfl wr.heap.size rfl ⟨(HI.out.1.below HBW.out).below (a3z _ _).out,heap_alloc_new wr _,by omega,by have:=HI.out.2.2.2.size;have:=HBW.out.size;simp;omega⟩ ?_;intro p4 c4 w5 H5)
       go_roundw
       case rel=>
        refine⟨i+1,M++[z],p4,c4, ?_,by go_num,HLT.out, ?_⟩
        ·rw[List.length_append];rfl
        ·have hap:∀y∈M,(y.t,y.n)≠(z.t,z.n):=λy hy=>by
          obtain⟨j,hj,e⟩:=List.getElem_of_mem hy
          exact(HU.out rfl).2 j y hj (by rw[List.getElem?_eq_getElem hj,e])
         have:=HI.out.step HZ.out (by rw[HMAY.out];exact(HU.out rfl).1) (Vc.cut_le ns) hap HML.out HBW.out H5.out.1 H5.out.2.1
         show SmI u0 w w5 (.slice p4 (M++[z]).length c4) (M++[z]) most
         rw[List.length_append]
         exact this
       case measure=>have:=HLT.out;simp[RowKit.intOf];omega
   ·have hmlI:¬(M.length:Int)<most:=by omega
    have hM9:M.length≤1000:=by have:=HI.out.2.2.1;omega
    clear hml
    go_wp2
    go_ret
    exact⟨_,M,rfl,HI.out⟩
  ·obtain rfl:i=L.length:=by omega
   go_wp2
   go_ret
   exact⟨_,M,rfl,HI.out⟩
end Go.Proofs.YthhakekbffembaaGreatDoor.Ck.Y.L
