import Derived.Test.YthhakekbffembaaGreatDoorKLta
set_option maxRecDepth 8000
set_option maxHeartbeats 1000000

namespace Go.Proofs.YthhakekbffembaaGreatDoor.Ck.Y.W
open Go.RowKit Go.Maps Go.Lib
theorem dsz:∀{l m:List OG},l.Pairwise (λa b=>avz (a.t,a.n) (b.t,b.n))→m.Pairwise (λa b=>avz (a.t,a.n) (b.t,b.n))→(∀x,x∈l↔x∈m)→l=m
 |[],[],_,_,_=>rfl
 |[],y::m,_,_,h=>by have:=(h y).2 List.mem_cons_self;simp at this
 |x::l,[],_,_,h=>by have:=(h x).1 List.mem_cons_self;simp at this
 |x::l,y::m,hl,hm,h=>by
  have h1:=List.pairwise_cons.1 hl
  have h2:=List.pairwise_cons.1 hm
  have e:x=y:=by
   rcases List.mem_cons.1 ((h x).1 List.mem_cons_self)with e|e
   ·exact e
   ·rcases List.mem_cons.1 ((h y).2 List.mem_cons_self)with e'|e'
    ·exact e'.symm
    ·exact absurd (bez (h1.1 y e') (h2.1 x e)) (aYz _)
  subst e
  rw[dsz h1.2 h2.2 λz=> ?_]
  constructor
  ·intro hz
   rcases List.mem_cons.1 ((h z).1 (List.mem_cons_of_mem _ hz))with e|e
   ·subst e;exact absurd (h1.1 z hz) (aYz _)
   ·exact e
  ·intro hz
   rcases List.mem_cons.1 ((h z).2 (List.mem_cons_of_mem _ hz))with e|e
   ·subst e;exact absurd (h2.1 z hz) (aYz _)
   ·exact e
structure Srt (l m:List OG):Prop where
 rise:l.Pairwise λa b=>avz (a.t,a.n) (b.t,b.n)
 perm:l.Perm m
theorem Srt.nil:Srt [] []:=⟨List.Pairwise.nil,List.Perm.refl _⟩
theorem Srt.ins {l m:List OG} {o:OG} {i:Nat} (h:Srt l m) (hi:InsAt l (o.t,o.n) i):Srt (l.take i++o::l.drop i) (m++[o]):=by
 have h':=h.rise
 rw[← List.take_append_drop i l,List.pairwise_append]at h'
 refine⟨List.pairwise_append.2 ⟨h'.1,List.pairwise_cons.2 ⟨λb hb=> ?_,h'.2.1⟩,λa ha b hb=> ?_⟩, ?_⟩
 ·obtain⟨k,hk,e⟩:=List.getElem_of_mem hb
  rw[List.length_drop]at hk
  exact hi.hi (i+k) b (by omega) (by rw[List.getElem?_eq_getElem (by omega),← e,List.getElem_drop])
 ·rcases List.mem_cons.1 hb with rfl|hb
  ·obtain⟨k,hk,e⟩:=List.getElem_of_mem ha
   rw[List.length_take]at hk
   exact hi.lo k a (by omega) (by rw[List.getElem?_eq_getElem (by omega),← e,List.getElem_take])
  ·exact h'.2.2 a ha b hb
 ·have h1:(l.take i++o::l.drop i).Perm (o::(l.take i++l.drop i)):=List.perm_middle
  rw[List.take_append_drop]at h1
  exact(h1.trans (h.perm.cons o)).trans (List.perm_append_comm (l₁:=[o]) (l₂:=m))
theorem Srt.len {l m:List OG} (h:Srt l m):l.length=m.length:=h.perm.length_eq
theorem Srt.unique {l l' m:List OG} (h:Srt l m) (h':Srt l' m):l=l':=dsz h.rise h'.rise λ_=>h.perm.mem_iff.trans h'.perm.mem_iff.symm
def wOf (q:PI) (o:OG):Bool:=decide ((o.ot,o.on)=q)
def vsq (nsf:OG→List Int) (bsf:OG→List (BitVec 8)) (m:List OG) (q:PI):List L.VC:=L.vcs nsf bsf (m.filter (wOf q))
section
variable {nsf:OG→List Int} {bsf:OG→List (BitVec 8)}
theorem o8z (m:List OG) {o:OG} {q:PI} (hk:o.kd=4) (hq:(o.ot,o.on)=q):vsq nsf bsf (m++[o]) q=vsq nsf bsf m q++[L.vcOf o (nsf o) (bsf o)]:=by
 unfold vsq
 have:(m++[o]).filter (wOf q)=m.filter (wOf q)++[o]:=by rw[List.filter_append];simp[wOf,hq]
 rw[this,L.vcs_snoc,if_pos hk]
theorem lAz (m:List OG) {o:OG} {q:PI} (h:¬(o.kd=4∧(o.ot,o.on)=q)):vsq nsf bsf (m++[o]) q=vsq nsf bsf m q:=by
 unfold vsq
 by_cases hq:(o.ot,o.on)=q
 ·have:(m++[o]).filter (wOf q)=m.filter (wOf q)++[o]:=by rw[List.filter_append];simp[wOf,hq]
  rw[this,L.vcs_snoc,if_neg λhk=>h ⟨hk,hq⟩]
 ·have:(m++[o]).filter (wOf q)=m.filter (wOf q):=by rw[List.filter_append];simp[wOf,hq]
  rw[this]
theorem mHz (m:List OG) (q:PI):(vsq nsf bsf m q).length≤m.length:=Nat.le_trans (L.vcs_len _) (List.length_filter_le _ _)
theorem mZz {m:List OG} {q:PI} {k:Int×Int} (h:k∈(vsq nsf bsf m q).map L.VC.key):∃o∈m,(o.t,o.n)=k:=by
 obtain⟨o,ho,e⟩:=L.vcs_key h
 exact⟨o,(List.mem_filter.1 ho).1,e⟩
end
structure VM (F:Nat→Prop) (w:World) (vb:Nat) (nsf:OG→List Int) (bsf:OG→List (BitVec 8)) (m ls:List OG) (cn:Value) (Ft:Nat→Prop) (fv:Value) (E:List (PI×Nat)) (Fs:PI→Nat→Prop):Prop where
 tree:TW Ft w ⟨vb,fv,cn⟩ ls
 fmap:(fv=.map none∧E=[])∨∃fm,fv=.map (some fm)∧MapAt w fm E∧F fm∧¬Ft fm∧∀q,¬Fs q fm
 file:∀q fb,atM E q=some fb→L.FileS (Fs q) w fb (vsq nsf bsf m q)
 no:∀q,atM E q=none→vsq nsf bsf m q=[]∧∀b,¬Fs q b
 apart:∀q q',q≠q'→∀b,Fs q b→¬Fs q' b
 off:∀q b,Fs q b→F b∧¬Ft b
 inF:∀b,Ft b→F b
 low:∀b,F b→b<w.heap.size
section
variable {F:Nat→Prop} {w w':World} {vb:Nat} {nsf:OG→List Int} {bsf:OG→List (BitVec 8)} {m ls ls':List OG} {cn:Value} {Ft:Nat→Prop} {fv:Value} {E:List (PI×Nat)} {Fs:PI→Nat→Prop}
theorem VM.fhas (h:VM F w vb nsf bsf m ls cn Ft fv E Fs) {q:PI} {b:Nat} (hb:Fs q b):∃fb,L.FileS (Fs q) w fb (vsq nsf bsf m q):=by
 cases hq:atM E q with
 |none=>exact absurd hb ((h.no q hq).2 b)
 |some fb=>exact⟨fb,h.file q fb hq⟩
theorem VM.kept {S:Nat→Prop} (h:VM F w vb nsf bsf m ls cn Ft fv E Fs) (ho:Only S w w') (hS:∀b,F b→¬S b) (hh:L.Hard w S):VM F w' vb nsf bsf m ls cn Ft fv E Fs:=by
 refine⟨h.tree.kept ho λb hb=>hS b (h.inF b hb), ?_,λq fb hq=>(h.file q fb hq).kept ho (λb hb=>hS b (h.off q b hb).1) hh,h.no,h.apart,h.off,h.inF,λb hb=>Nat.lt_of_lt_of_le (h.low b hb) ho.size⟩
 rcases h.fmap with h0|⟨fm,e,h1,h2,h3⟩
 ·exact .inl h0
 ·exact .inr ⟨fm,e,h1.kept ho (hS fm h2),h2,h3⟩
theorem VM.below (h:VM F w vb nsf bsf m ls cn Ft fv E Fs) (hb:Below w.heap.size w w'):VM F w' vb nsf bsf m ls cn Ft fv E Fs:=
 h.kept (Below.only hb (λ_=>False)) (λ_ _ f=>f) (λ_ f=>f.elim)
theorem VM.turned (h:VM F w vb nsf bsf m ls cn Ft fv E Fs) {G:Nat→Prop} (ht:TW G w' ⟨vb,fv,cn⟩ ls') (hG:∀b,G b→ajz (bZz Ft w) w w' b) (ho:Only (bZz Ft w) w w'):
  VM (λb=>F b∨G b) w' vb nsf bsf m ls' cn G fv E Fs∧Only F w w':=by
 have old:∀b,b<w.heap.size→G b→Ft b:=λb hb hg=>by
  rcases hG b hg with e|e
  ·exact e.1
  ·omega
 have hard:=hZz Ft w
 refine⟨⟨ht, ?_,λq fb hq=>(h.file q fb hq).kept ho (λb hb hf=>(h.off q b hb).2 hf.1) hard,h.no,h.apart,λq b hb=>⟨.inl (h.off q b hb).1,λhg=>(h.off q b hb).2 (old b (h.low b (h.off q b hb).1) hg)⟩,λb hb=>.inr hb,λb hb=> ?_⟩,atz ho λb hb=>h.inF b hb.1⟩
 ·rcases h.fmap with h0|⟨fm,e,h1,h2,h3,h4⟩
  ·exact .inl h0
  ·exact .inr ⟨fm,e,h1.kept ho λhf=>h3 hf.1,.inl h2,λhg=>h3 (old fm (h.low fm h2) hg),h4⟩
 ·rcases hb with hb|hb
  ·exact Nat.lt_of_lt_of_le (h.low b hb) ho.size
  ·exact ht.low b hb
theorem VM.filed (h:VM F w vb nsf bsf m ls cn Ft fv E Fs) {q:PI} {fb:Nat} {G:Nat→Prop} {S:List L.VC} {m':List OG} (hq:atM E q=some fb) (hf:L.FileS G w' fb S) (hG:∀b,G b→Fs q b∨w.heap.size≤b) (ho:Only (Fs q) w w') (hS:vsq nsf bsf m' q=S) (hr:∀q',q'≠q→vsq nsf bsf m' q'=vsq nsf bsf m q'):
  VM (λb=>F b∨G b) w' vb nsf bsf m' ls cn Ft fv E (λq'=>if q'=q then G else Fs q')∧Only F w w':=by
 have hF:∀b,Fs q b→F b:=λb hb=>(h.off q b hb).1
 have hard:=(h.file q fb hq).hard
 have at':∀q' b,(if q'=q then G else Fs q') b→(q'=q∧G b)∨(q'≠q∧Fs q' b):=λq' b hb=>by
  by_cases e:q'=q
  ·rw[if_pos e]at hb;exact .inl ⟨e,hb⟩
  ·rw[if_neg e]at hb;exact .inr ⟨e,hb⟩
 refine⟨⟨h.tree.kept ho λb hb hf=>(h.off q b hf).2 hb, ?_,λq' fb' hq'=> ?_,λq' hq'=> ?_,λq1 q2 hne b h1 h2=> ?_,λq' b hb=> ?_,λb hb=>.inl (h.inF b hb),λb hb=> ?_⟩,atz ho hF⟩
 ·rcases h.fmap with h0|⟨fm,e,h1,h2,h3,h4⟩
  ·exact .inl h0
  ·refine .inr ⟨fm,e,h1.kept ho (h4 q),.inl h2,h3,λq' hb=> ?_⟩
   rcases at' q' fm hb with⟨_,hb⟩|⟨_,hb⟩
   ·rcases hG fm hb with e|e
    ·exact h4 q e
    ·have:=h.low fm h2;omega
   ·exact h4 q' hb
 ·by_cases e:q'=q
  ·subst e
   rw[hq]at hq';cases hq'
   rw[if_pos rfl,hS];exact hf
  ·rw[if_neg e,hr q' e]
   exact(h.file q' fb' hq').kept ho (λb hb=>h.apart q' q e b hb) hard
 ·have e:q'≠q:=λe=>by rw[e,hq]at hq';cases hq'
  rw[hr q' e]
  refine⟨(h.no q' hq').1,λb=> ?_⟩
  rw[if_neg e]
  exact(h.no q' hq').2 b
 ·rcases at' q1 b h1 with⟨e1,h1⟩|⟨e1,h1⟩<;>rcases at' q2 b h2 with⟨e2,h2⟩|⟨e2,h2⟩
  ·exact hne (e1.trans e2.symm)
  ·rcases hG b h1 with k|k
   ·exact h.apart q q2 (λe=>e2 e.symm) b k h2
   ·have:=h.low b (h.off q2 b h2).1;omega
  ·rcases hG b h2 with k|k
   ·exact h.apart q q1 (λe=>e1 e.symm) b k h1
   ·have:=h.low b (h.off q1 b h1).1;omega
  ·exact h.apart q1 q2 hne b h1 h2
 ·rcases at' q' b hb with⟨e1,h1⟩|⟨e1,h1⟩
  ·refine⟨.inr h1,λht=> ?_⟩
   rcases hG b h1 with k|k
   ·exact(h.off q b k).2 ht
   ·have:=h.low b (h.inF b ht);omega
  ·exact⟨.inl (h.off q' b h1).1,(h.off q' b h1).2⟩
 ·rcases hb with hb|hb
  ·exact Nat.lt_of_lt_of_le (h.low b hb) ho.size
  ·exact hf.lt b hb
theorem VM.more (h:VM F w vb nsf bsf m ls cn Ft fv E Fs) {q:PI} {fb fm:Nat} {G:Nat→Prop} (hq:atM E q=none) (hfm:fv=.map (some fm)) (hf:L.FileS G w fb []) (hG:∀b,G b→¬F b) (hm:MapAt w' fm (E++[(q,fb)])) (ho:Only (· =fm) w w'):
  VM (λb=>F b∨G b) w' vb nsf bsf m ls cn Ft fv (E++[(q,fb)]) (λq'=>if q'=q then G else Fs q')∧Only F w w':=by
 obtain⟨h0,_⟩|⟨fm',e,h1,h2,h3,h4⟩:=h.fmap
 ·rw[hfm]at h0;cases h0
 rw[hfm]at e;cases e
 have hmap:∃es c,w.heap[fm]? =some (.map es c):=by obtain⟨es,c,hb,_⟩:=h1;exact⟨es,c,hb⟩
 have hard:L.Hard w (· =fm):=by
  obtain⟨es,c,hb⟩:=hmap
  rintro b rfl cs t ht
  rw[hb]at ht;cases ht
 have atA:∀q',atM (E++[(q,fb)]) q'=if q'=q then some fb else atM E q':=λq'=>by
  unfold atM at hq⊢
  rw[List.find?_append]
  by_cases e:q'=q
  ·subst e
   rw[if_pos rfl]
   rw[Option.map_eq_none_iff]at hq
   rw[hq];simp
  ·rw[if_neg e]
   have:¬q=q':=λe'=>e e'.symm
   cases hE:E.find? (λx=>decide (x.1=q'))with
   |none=>simp[this]
   |some x=>simp
 have at':∀q' b,(if q'=q then G else Fs q') b→(q'=q∧G b)∨(q'≠q∧Fs q' b):=λq' b hb=>by
  by_cases e:q'=q
  ·rw[if_pos e]at hb;exact .inl ⟨e,hb⟩
  ·rw[if_neg e]at hb;exact .inr ⟨e,hb⟩
 refine⟨⟨h.tree.kept ho λb hb e=>h3 (by rw[← show b=fm from e];exact hb),.inr ⟨fm,hfm,hm,.inl h2,h3,λq' hb=> ?_⟩,λq' fb' hq'=> ?_,λq' hq'=> ?_,λq1 q2 hne b h1' h2'=> ?_,λq' b hb=> ?_,λb hb=>.inl (h.inF b hb),λb hb=> ?_⟩,atz ho λb hb=>by rw[show b=fm from hb];exact h2⟩
 ·rcases at' q' fm hb with⟨_,hb⟩|⟨_,hb⟩
  ·exact hG fm hb h2
  ·exact h4 q' hb
 ·rw[atA]at hq'
  by_cases e:q'=q
  ·subst e
   rw[if_pos rfl]at hq'⊢
   cases hq'
   rw[(h.no q' hq).1]
   exact hf.kept ho (λb hb e=>hG b hb (by rw[show b=fm from e];exact h2)) hard
  ·rw[if_neg e]at hq'⊢
   exact(h.file q' fb' hq').kept ho (λb hb e=>h4 q' (by rw[← show b=fm from e];exact hb)) hard
 ·rw[atA]at hq'
  by_cases e:q'=q
  ·rw[if_pos e]at hq';cases hq'
  ·rw[if_neg e]at hq'⊢
   exact h.no q' hq'
 ·rcases at' q1 b h1' with⟨e1,h1'⟩|⟨e1,h1'⟩<;>rcases at' q2 b h2' with⟨e2,h2'⟩|⟨e2,h2'⟩
  ·exact hne (e1.trans e2.symm)
  ·exact hG b h1' (h.off q2 b h2').1
  ·exact hG b h2' (h.off q1 b h1').1
  ·exact h.apart q1 q2 hne b h1' h2'
 ·rcases at' q' b hb with⟨e1,h1'⟩|⟨e1,h1'⟩
  ·exact⟨.inr h1',λht=>hG b h1' (h.inF b ht)⟩
  ·exact⟨.inl (h.off q' b h1').1,(h.off q' b h1').2⟩
 ·rcases hb with hb|hb
  ·exact Nat.lt_of_lt_of_le (h.low b hb) ho.size
  ·exact Nat.lt_of_lt_of_le (hf.lt b hb) ho.size
theorem VM.own {fv' cn':Value} (h:VM F w vb nsf bsf m ls cn Ft fv E Fs) (ht:TW Ft w' ⟨vb,fv',cn'⟩ ls) (ho:Only (· =vb) w w') (hv:fv'=fv):VM F w' vb nsf bsf m ls cn' Ft fv' E Fs∧Only F w w':=by
 subst hv
 have hvb:Ft vb:=h.tree.cells.1
 obtain⟨cs,hcs⟩:∃cs,w.heap[vb]? =some (.cells cs 77 (0,0)):=by
  rcases h.tree with⟨U,bl,dr,h⟩|⟨d,T,s,mb,B,U,bl,dr,h⟩
  ·obtain⟨FO,kv,L,v,h1,h2,h3,h4⟩:=h.out;exact⟨_,h3⟩
  ·obtain⟨FO,kv,L,v,h1,h2,h3,h4⟩:=h.out;exact⟨_,h3⟩
 have hard:L.Hard w (· =vb):=L.hard_one hcs (by decide)
 refine⟨⟨ht, ?_,λq fb hq=>(h.file q fb hq).kept ho (λb hb e=>(h.off q b hb).2 (by rw[show b=vb from e];exact hvb)) hard,h.no,h.apart,h.off,h.inF,λb hb=>Nat.lt_of_lt_of_le (h.low b hb) ho.size⟩,atz ho λb hb=>by rw[show b=vb from hb];exact h.inF _ hvb⟩
 rcases h.fmap with h0|⟨fm,e,h1,h2,h3⟩
 ·exact .inl h0
 ·exact .inr ⟨fm,e,h1.kept ho (λe=>h3.1 (by rw[show fm=vb from e];exact hvb)),h2,h3⟩
theorem VM.first (h:VM F w vb nsf bsf m ls cn Ft (.map none) E Fs) {fm:Nat} (hm:MapAt w fm []) (hF:¬F fm) (ht:TW Ft w' ⟨vb,.map (some fm),cn⟩ ls) (ho:Only (· =vb) w w'):VM (λb=>F b∨b=fm) w' vb nsf bsf m ls cn Ft (.map (some fm)) E Fs∧Only F w w':=by
 have hvb:Ft vb:=h.tree.cells.1
 obtain⟨_,e⟩|⟨fm',e,_⟩:=h.fmap
 ·subst e
  have nof:∀q b,¬Fs q b:=λq b=>(h.no q rfl).2 b
  refine⟨⟨ht,.inr ⟨fm,rfl,hm.kept ho (λe=>hF (by rw[show fm=vb from e];exact h.inF _ hvb)),.inr rfl,λhb=>hF (h.inF _ hb),λq=>nof q fm⟩,(λq fb hq=>by cases hq),h.no,h.apart,λq b hb=>absurd hb (nof q b),λb hb=>.inl (h.inF b hb),λb hb=> ?_⟩,atz ho λb hb=>by rw[show b=vb from hb];exact h.inF _ hvb⟩
  rcases hb with hb|hb
  ·exact Nat.lt_of_lt_of_le (h.low b hb) ho.size
  ·rw[hb];exact Nat.lt_of_lt_of_le hm.lt ho.size
 ·cases e
end
def VW (F:Nat→Prop) (w:World) (vb:Nat) (nsf:OG→List Int) (bsf:OG→List (BitVec 8)) (m ls:List OG):Prop:=∃Ft fv E Fs,VM F w vb nsf bsf m ls (.int .i64 (m.length:Nat)) Ft fv E Fs∧Srt ls m
section
variable {F:Nat→Prop} {w w':World} {vb:Nat} {nsf:OG→List Int} {bsf:OG→List (BitVec 8)} {m ls:List OG}
theorem VW.kept {S:Nat→Prop} (h:VW F w vb nsf bsf m ls) (ho:Only S w w') (hS:∀b,F b→¬S b) (hh:L.Hard w S):VW F w' vb nsf bsf m ls:=by
 obtain⟨Ft,fv,E,Fs,h,hs⟩:=h
 exact⟨Ft,fv,E,Fs,h.kept ho hS hh,hs⟩
theorem VW.below (h:VW F w vb nsf bsf m ls) (hb:Below w.heap.size w w'):VW F w' vb nsf bsf m ls:=by
 obtain⟨Ft,fv,E,Fs,h,hs⟩:=h
 exact⟨Ft,fv,E,Fs,h.below hb,hs⟩
theorem VW.low (h:VW F w vb nsf bsf m ls):∀b,F b→b<w.heap.size:=by
 obtain⟨Ft,fv,E,Fs,h,hs⟩:=h
 exact h.low
theorem VW.srt (h:VW F w vb nsf bsf m ls):Srt ls m:=by
 obtain⟨Ft,fv,E,Fs,h,hs⟩:=h
 exact hs
theorem VW.len (h:VW F w vb nsf bsf m ls):m.length≤800:=by
 obtain⟨Ft,fv,E,Fs,h,hs⟩:=h
 rw[← hs.len];exact h.tree.cells.2.2.2.2
theorem VW.fresh (w:World):VW (· =w.heap.size) (w.alloc (.cells #[.map none,.slice none 0 0,.int .i64 0,.int .i64 0,.map none,.int .i64 0] 77)) w.heap.size nsf bsf [] []:=
 ⟨_,_,[],λ_ _=>False,⟨TW.fresh w,.inl ⟨rfl,rfl⟩,(λq fb hq=>by cases hq),λq _=>⟨rfl,λ_ f=>f⟩,(λ_ _ _ _ f=>f.elim),(λ_ _ f=>f.elim),λ_ h=>h,λb hb=>by rw[show b=w.heap.size from hb];simp⟩,Srt.nil⟩
end
def Sft (w w':World):Prop:=w.heap.size≤w'.heap.size∧∀(b:Nat) (cs:Array Value) (t:TypeId) (fr:Nat×Nat),w.heap[b]? =some (.cells cs t fr)→¬okV t→w'.heap[b]? =some (.cells cs t fr)
theorem Sft.refl (w:World):Sft w w:=⟨Nat.le_refl _,λ_ _ _ _ h _=>h⟩
theorem Sft.trans {a b c:World} (h:Sft a b) (k:Sft b c):Sft a c:=⟨Nat.le_trans h.1 k.1,λx cs t fr hx ht=>k.2 x cs t fr (h.2 x cs t fr hx ht) ht⟩
theorem Sft.below {w w':World} (h:Below w.heap.size w w'):Sft w w':=⟨h.size,λb _ _ _ hb _=>(h.block b (block_lt hb)).trans hb⟩
theorem Sft.at {w w':World} (h:Sft w w') {b:Nat} {cs:Array Value} {t:TypeId} {fr:Nat×Nat} (hb:w.heap[b]? =some (.cells cs t fr)) (ht:¬okV t):w'.heap[b]? =some (.cells cs t fr):=h.2 b cs t fr hb ht
def tgF (F:Nat→Prop) (w:World) (b:Nat):Prop:=F b∧∀cs t fr,w.heap[b]? =some (.cells cs t fr)→okV t
section
variable {F:Nat→Prop} {w w':World} {vb:Nat} {nsf:OG→List Int} {bsf:OG→List (BitVec 8)} {m ls:List OG} {cn:Value} {Ft:Nat→Prop} {fv:Value} {E:List (PI×Nat)} {Fs:PI→Nat→Prop}
theorem VM.tight (h:VM F w vb nsf bsf m ls cn Ft fv E Fs):VM (tgF F w) w vb nsf bsf m ls cn (bZz Ft w) fv E Fs:=by
 refine⟨h.tree.tight, ?_,h.file,h.no,h.apart,λq b hb=>⟨⟨(h.off q b hb).1,λcs t fr ht=> ?_⟩,λe=>(h.off q b hb).2 e.1⟩,λb hb=>⟨h.inF b hb.1,λcs t fr ht=>.inl (hb.2 cs t fr ht)⟩,λb hb=>h.low b hb.1⟩
 ·rcases h.fmap with h0|⟨fm,e,h1,h2,h3,h4⟩
  ·exact .inl h0
  ·refine .inr ⟨fm,e,h1,⟨h2,λcs t fr ht=> ?_⟩,λe=>h3 e.1,h4⟩
   obtain⟨es,c,hb,_⟩:=h1
   rw[hb]at ht;cases ht
 ·obtain⟨fb,hf⟩:=h.fhas hb
  obtain⟨sn,H,mv,sp,sc,hv,k1,_,e,_⟩:=hf
  rw[e]at hb
  rcases hb with rfl|hb|hb
  ·rw[k1.blk]at ht;cases ht;exact .inr (.inl rfl)
  ·rcases k1.map with⟨e',_⟩|⟨mb,e',es,c,hm,_⟩
   ·rw[hb]at e';cases e'
   ·rw[hb]at e';cases e'
    rw[hm]at ht;cases ht
  ·obtain⟨cs',hc⟩:=L.RowV.tagged k1.hrow hb
   rw[hc]at ht;cases ht;exact .inr (.inr rfl)
theorem VW.tight (h:VW F w vb nsf bsf m ls):VW (tgF F w) w vb nsf bsf m ls:=by
 obtain⟨Ft,fv,E,Fs,h,hs⟩:=h
 exact⟨_,fv,E,Fs,h.tight,hs⟩
theorem h8z (h:Only (tgF F w) w w'):Sft w w':=⟨h.size,λb cs t fr hb ht=>(h.block b (block_lt hb) λe=>ht (e.2 cs t fr hb)).trans hb⟩
end
def VJ (u:World) (F0:Nat→Prop) (vb:Nat) (nsf:OG→List Int) (bsf:OG→List (BitVec 8)) (m ls:List OG) (w:World):Prop:=∃F,VW F w vb nsf bsf m ls∧(∀b,F b→F0 b∨u.heap.size≤b)∧Only F0 u w∧Sft u w
section
variable {u w w':World} {F0 F:Nat→Prop} {vb:Nat} {nsf:OG→List Int} {bsf:OG→List (BitVec 8)} {m ls m' ls':List OG}
theorem VJ.start (h:VW F u vb nsf bsf m ls):VJ u F vb nsf bsf m ls u:=⟨F,h,λ_ hb=>.inl hb,Only.refl _ _,Sft.refl _⟩
theorem VJ.only (h:VJ u F0 vb nsf bsf m ls w):Only F0 u w:=by obtain⟨F,_,_,h,_⟩:=h;exact h
theorem VJ.sft (h:VJ u F0 vb nsf bsf m ls w):Sft u w:=by obtain⟨F,_,_,_,h⟩:=h;exact h
theorem VJ.size (h:VJ u F0 vb nsf bsf m ls w):u.heap.size≤w.heap.size:=h.only.size
theorem VJ.below (h:VJ u F0 vb nsf bsf m ls w) (hb:Below w.heap.size w w'):VJ u F0 vb nsf bsf m ls w':=by
 obtain⟨F,h1,h2,h3,h4⟩:=h
 exact⟨F,h1.below hb,h2,h3.next (Below.only hb _),h4.trans (Sft.below hb)⟩
theorem VJ.put (h:VJ u F0 vb nsf bsf m ls w) {b:Nat} {cs:Array Value} {t:TypeId} {fr:Nat×Nat} (hb:w.heap[b]? =some (.cells cs t fr)) (ht:¬okV t) (ht2:t≠2∧t≠5) (hu:u.heap.size≤b) (ho:Only (· =b) w w'):VJ u F0 vb nsf bsf m ls w':=by
 obtain⟨F,h1,h2,h3,h4⟩:=h
 refine⟨_,h1.tight.kept ho (λc hc e=> ?_) (λc e cs' t' h'=> ?_),λc hc=>h2 c hc.1,h3.trans ho λc hc=>.inr (by rw[show c=b from hc];exact hu),⟨Nat.le_trans h4.1 ho.size,λx cs' t' fr' hx hx'=>(ho.block x (Nat.lt_of_lt_of_le (block_lt hx) h4.1) λe=> ?_).trans (h4.2 x cs' t' fr' hx hx')⟩⟩
 ·have e:c=b:=e
  rw[e]at hc;exact ht (hc.2 cs t fr hb)
 ·rw[show c=b from e,hb]at h';cases h';exact ht2
 ·have:=block_lt hx
  have e:x=b:=e
  omega
theorem VJ.call {f:FuncId} {args:Array Value} {R:Ending→World→Prop} (h:VJ u F0 vb nsf bsf m ls w) (hc:∀F,VW F w vb nsf bsf m ls→Calls Tryz.prog f args w λe w'=>R e w'∧VJ w F vb nsf bsf m' ls' w'):
  Calls Tryz.prog f args w λe w'=>R e w'∧VJ u F0 vb nsf bsf m' ls' w'∧Sft w w':=by
 obtain⟨F,h1,h2,h3,h4⟩:=h
 refine(hc F h1).mono ?_
 rintro e w' ⟨hR,F',k1,k2,k3,k4⟩
 refine⟨hR,⟨F',k1,λb hb=> ?_,h3.trans k3 h2,h4.trans k4⟩,k4⟩
 rcases k2 b hb with hb|hb
 ·exact h2 b hb
 ·have:=h3.size;exact .inr (by omega)
theorem VJ.of_below {w1:World} (h:VJ w1 F vb nsf bsf m ls w') (hb:Below w.heap.size w w1):VJ w F vb nsf bsf m ls w':=by
 obtain⟨F',h1,h2,h3,h4⟩:=h
 exact⟨F',h1,λb hb'=>(h2 b hb').imp id (λe=>Nat.le_trans hb.size e),(Below.only hb F).next h3,(Sft.below hb).trans h4⟩
end
end Go.Proofs.YthhakekbffembaaGreatDoor.Ck.Y.W

namespace Go.Proofs.YthhakekbffembaaGreatDoor.Ck.Y.W
open Go.RowKit Go.Maps Go.Lib
open L (a2z a6z anz a5z)
section
variable {F:Nat→Prop} {w w':World} {vb s:Nat} {nsf:OG→List Int} {bsf:OG→List (BitVec 8)} {m ls:List OG} {T:List OB}
theorem VM.turnJ {Ft:Nat→Prop} {fv:Value} {E:List (PI×Nat)} {Fs:PI→Nat→Prop} (h:VM F w vb nsf bsf m ls (.int .i64 (m.length:Nat)) Ft fv E Fs) (hs:Srt ls m) {G:Nat→Prop} (k1:TW G w' ⟨vb,fv,.int .i64 (m.length:Nat)⟩ ls) (hG:∀b,G b→ajz (bZz Ft w) w w' b) (k2:Only (bZz Ft w) w w'):VJ w F vb nsf bsf m ls w':=by
 obtain⟨q1,q2⟩:=h.turned k1 hG k2
 refine⟨_,⟨_,fv,E,Fs,q1,hs⟩,λb hb=> ?_,q2,h8z (F:=Ft) ⟨k2.os,k2.tape,k2.output,k2.size,λb hb hn=>k2.block b hb λe=>hn ⟨e.1,λcs t fr ht=>.inl (e.2 cs t fr ht)⟩⟩⟩
 rcases hb with hb|hb
 ·exact .inl hb
 ·rcases hG b hb with hb|hb
  ·exact .inl (h.inF b hb.1)
  ·exact .inr hb.1
theorem VW.treeC {f:FuncId} {args:Array Value} {R:Ending→World→Prop} (h:VW F w vb nsf bsf m ls) (c:∀G fv cn,TW G w ⟨vb,fv,cn⟩ ls→Calls Tryz.prog f args w λe w'=>R e w'∧TW (ajz G w w') w' ⟨vb,fv,cn⟩ ls∧Only G w w'):
  Calls Tryz.prog f args w λe w'=>R e w'∧VJ w F vb nsf bsf m ls w':=by
 obtain⟨Ft,fv,E,Fs,h,hs⟩:=h
 refine(c _ _ _ h.tight.tree).mono ?_
 rintro e w' ⟨hR,k1,k2⟩
 exact⟨hR,VM.turnJ h hs k1 (λ_ h=>h) k2⟩
theorem VW.dir (h:VW F w vb nsf bsf m ls) (hf:FoldT [] 0 ls T s) (t n:Int):
  Calls Tryz.prog 43 #[.pointer (some ⟨vb,0,none⟩),idv t n] w λe w'=>e=.returned (.bool (aAz T t n))∧VJ w F vb nsf bsf m ls w':=h.treeC λ_ _ _ hF=>mUz hF hf t n
theorem VW.parent (h:VW F w vb nsf bsf m ls) (hf:FoldT [] 0 ls T s) (t n:Int):
  Calls Tryz.prog 40 #[.pointer (some ⟨vb,0,none⟩),idv t n] w λe w'=>e=.returned (hyz T (t,n))∧VJ w F vb nsf bsf m ls w':=h.treeC λ_ _ _ hF=>igz hF hf t n
theorem VW.tlive (h:VW F w vb nsf bsf m ls) (hf:FoldT [] 0 ls T s) (t n:Int) {r:Bool} (hr:r=true↔(t=0∧n=0)∨Bel T (t,n) (0,0)):
  Calls Tryz.prog 57 #[.pointer (some ⟨vb,0,none⟩),idv t n] w λe w'=>e=.returned (.bool r)∧VJ w F vb nsf bsf m ls w':=
 h.treeC λ_ _ _ hF=>(jSz hF hf t n).mono λ_ _ ⟨r',he,hr',h1⟩=>by
  have:r'=r:=Bool.eq_iff_iff.2 (hr'.trans hr.symm)
  subst this
  exact⟨he,h1⟩
def kVz (w:World) (T:List OB) (t n:Int) (e:Ending) (w':World):Prop:=∃v K,e=.returned v∧RowI w' w.heap.size v K∧IsKids T t n K∧K.length≤900
theorem VW.tkids (h:VW F w vb nsf bsf m ls) (hf:FoldT [] 0 ls T s) (t n:Int):
  Calls Tryz.prog 88 #[.pointer (some ⟨vb,0,none⟩),idv t n] w λe w'=>kVz w T t n e w'∧VJ w F vb nsf bsf m ls w':=by
 obtain⟨Ft,fv,E,Fs,h,hs⟩:=h
 refine(jtz h.tight.tree hf t n).mono ?_
 rintro e w' ⟨v,K,rfl,h1,h2,h3,⟨G,g1,g2,g3⟩,k2⟩
 exact⟨⟨v,K,rfl,h1,h2,h3⟩,VM.turnJ h hs g1 g2 k2⟩
end
theorem hIz (w:World):Calls Tryz.prog 7 #[] w λe w'=>e=.returned (.pointer (some ⟨w.heap.size,0,none⟩))∧Hid (Below w.heap.size w w'∧∀nsf bsf,VW (· =w.heap.size) w' w.heap.size nsf bsf [] []):=by
 have HR:Hid (Below w.heap.size w (w.alloc (.cells #[.map none,.slice none 0 0,.int .i64 0,.int .i64 0,.map none,.int .i64 0] 77))∧∀nsf bsf,VW (· =w.heap.size) (w.alloc (.cells #[.map none,.slice none 0 0,.int .i64 0,.int .i64 0,.map none,.int .i64 0] 77)) w.heap.size nsf bsf [] []):=⟨(Below.refl w.heap.size w).alloc (Nat.le_refl _) _,λ_ _=>VW.fresh w⟩
 go_enter Tryz.func7,Tryz.ntmps7
 go_wp2
 go_ret
 exact⟨rfl,HR⟩
section
variable {F:Nat→Prop} {w w':World} {vb s:Nat} {nsf:OG→List Int} {bsf:OG→List (BitVec 8)} {m ls:List OG} {T:List OB}
theorem VW.live (h:VW F w vb nsf bsf m ls) (hf:FoldT [] 0 ls T s) (t n:Int) {r:Bool} (hr:r=true↔(t=0∧n=0)∨Bel T (t,n) (0,0)):
  Calls Tryz.prog 24 #[.pointer (some ⟨vb,0,none⟩),idv t n] w λe w'=>e=.returned (.bool r)∧VJ w F vb nsf bsf m ls w':=by
 have HB:Hid (Below w.heap.size w (w.alloc (.cells #[.int .i64 t,.int .i64 n] 28)).drew):=a2z (a3z w _).out (a6z _)
 have c:=((h.below HB.out).tlive hf t n hr).mono λe w' (h:_∧VJ _ _ _ _ _ _ _ _)=>(⟨h.1,h.2.of_below HB.out⟩:e=.returned (.bool r)∧VJ w F vb nsf bsf m ls w')
 clear h hf hr HB
 go_enter Tryz.func24,Tryz.ntmps24
 go_wp2_with fail
 go_region_with (go_at_call 57;refine c.mono ?_;rintro e w1 ⟨rfl,h1⟩;have H1:=a0z h1;clear h1)
 all_goals
  go_wp2_with fail
  go_ret
  exact⟨rfl,H1.out⟩
theorem VW.vlen (h:VW F w vb nsf bsf m ls):
  Calls Tryz.prog 11 #[.pointer (some ⟨vb,0,none⟩)] w λe w'=>e=.returned (.int .i64 (m.length:Nat))∧w'=w:=by
 obtain⟨Ft,fv,E,Fs,h,hs⟩:=h
 have c5:w.cell? ⟨vb,5,none⟩=some (.int .i64 (m.length:Nat)):=h.tree.cells.2.2.1
 clear h hs
 generalize m.length=k at*
 go_enter Tryz.func11,Tryz.ntmps11
 go_wp2
 go_ret
 exact⟨rfl,rfl⟩
end
end Go.Proofs.YthhakekbffembaaGreatDoor.Ck.Y.W

namespace Go.Proofs.YthhakekbffembaaGreatDoor.Ck.Y.W
open Go.RowKit Go.Maps Go.Lib
open L (a2z a6z anz a5z)
theorem jiz {w:World} {mb:Nat} {E:List (PI×Nat)} (h:MapAt w mb E) (t n:Int):(Instr.lookup 75 (.map (some mb)) (idv t n) false).run Tryz.prog w=.ok ((atM E (t,n)).elim (.pointer none) pv) w:=by
 obtain⟨es,clock,hb,he⟩:=h
 have hk:=bkz (t,n) w es.toList E he
 have hc:=λe=>bgz e (t,n) w
 cases hq:atM E (t,n)with
 |none=>
  rw[cPz hq]at hk
  simp[Instr.lookup,run_underlying Tryz.underlying75,MapKept.run_getObj_map hb,hc,hk,Tryz.zeroValue104]
 |some b=>
  obtain⟨k,e⟩:=gJz hq
  rw[e]at hk
  simp[Instr.lookup,run_underlying Tryz.underlying75,MapKept.run_getObj_map hb,hc,hk]
theorem jQz (t n:Int) (w:World):(Instr.lookup 75 (.map none) (idv t n) false).run Tryz.prog w=.ok (.pointer none) w:=by
 have hc:=λe=>bgz e (t,n) w
 have hk:=bkz (t,n) w [] [] rfl
 rw[cPz (by rfl)]at hk
 simp[Instr.lookup,run_underlying Tryz.underlying75,hc,hk,Tryz.zeroValue104]
theorem owz {w:World} {mb:Nat} {E:List (PI×Nat)} (h:MapAt w mb E) (t n:Int) (b:Nat) (hq:atM E (t,n)=none):
  ∃W,(Instr.mapUpdate 75 (.map (some mb)) (idv t n) (pv b)).run Tryz.prog w=.ok () W∧MapAt W mb (E++[((t,n),b)])∧Only (· =mb) w W∧W.heap.size=w.heap.size:=by
 obtain⟨es,clock,hb,he⟩:=h
 have hk:=bkz (t,n) w es.toList E he
 have hc:=λe=>bgz e (t,n) w
 rw[cPz hq]at hk
 refine⟨Go.ChangeMaps.setBlock w mb (.map (es.push ⟨idv t n,pv b,clock⟩) (clock+1)), ?_,⟨_,_,bUz _ (block_lt hb), ?_⟩,biz _ _ _,by simp[Go.ChangeMaps.setBlock]⟩
 ·simp[Instr.mapUpdate,run_underlying Tryz.underlying75,MapKept.run_getObj_map hb,hc,hk,MapKept.run_setObj_map _ hb,Result.andThen,Go.ChangeMaps.setBlock]
 ·rw[Array.toList_push,List.map_append,List.map_append,he]
  rfl
theorem hez (mb:Nat) (w:World):(binOp .eql 75 (.map (some mb)) (.map none)).run Tryz.prog w=.ok (.bool false) w:=by kernel_rfl
theorem kRz (w:World):(binOp .eql 75 (.map none) (.map none)).run Tryz.prog w=.ok (.bool true) w:=by kernel_rfl
end Go.Proofs.YthhakekbffembaaGreatDoor.Ck.Y.W
